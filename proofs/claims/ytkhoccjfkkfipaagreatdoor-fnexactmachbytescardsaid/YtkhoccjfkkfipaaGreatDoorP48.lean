/-
  A program at work: put, putJump, land.
  The laws' marks of places in a row of one's own.
-/
import Derived.Test.YtkhoccjfkkfipaaGreatDoorP47
import Derived.OwnWalk
import Derived.Maps.AppendAt
import Derived.Deep.RegionWith
import Derived.Deep.RegionLaw
import Derived.Deep.QuietTactic
import Derived.BigQuiet
namespace Go.Proofs.YtkhoccjfkkfipaaGreatDoor
open Go.RowKit
namespace Cm
open St (Vl encV)
open Nd Ty
open Pg (RdT idx)
open Oc (hold Blk)
def errV (a : Addr) : Value := .iface 273 (.pointer (some a))
/-- What is fixed while a program is compiled: the world as it was, where its work lies, its names. -/
structure Fx where
  W : World
  p : Nat
  m : Nat
  va : Option Addr
  ca : Option Addr
  vc : Nat
  cc : Nat
  vars : List ByteArray
  cells : List ByteArray
  ad : Addr
def Fx.iv (X : Fx) : ByteArray → Int := idx X.vars
def Fx.ic (X : Fx) : ByteArray → Int := idx X.cells
/-- The row of places is at block k. -/
def RowAt (X : Fx) (w : World) (k : Nat) : Prop := ∃ (ao : Option Addr) (n cap : Nat), w.cell? ⟨X.p, 2, none⟩ = some (.slice ao n cap) ∧ Value.ownBlock (.slice ao n cap) = some k
/-- Nothing is turned but the work, its map and its row. -/
structure Ch (X : Fx) (w w' : World) : Prop where
  size : w.heap.size ≤ w'.heap.size
  own : ∀ k, k < w.heap.size → k ≠ X.p → k ≠ X.m → ¬ RowAt X w k → w'.heap[k]? = w.heap[k]? ∧ ¬ RowAt X w' k
theorem Ch.refl (X : Fx) (w : World) : Ch X w w := ⟨Nat.le_refl _, fun _ _ _ _ h => ⟨rfl, h⟩⟩
theorem Ch.trans {X : Fx} {a b c : World} (h : Ch X a b) (k : Ch X b c) : Ch X a c :=
  ⟨Nat.le_trans h.size k.size, fun j h1 h2 h2' h3 =>
    ⟨((k.own j (Nat.lt_of_lt_of_le h1 h.size) h2 h2' (h.own j h1 h2 h2' h3).2).1).trans (h.own j h1 h2 h2' h3).1, (k.own j (Nat.lt_of_lt_of_le h1 h.size) h2 h2' (h.own j h1 h2 h2' h3).2).2⟩⟩
theorem rowAt_same {X : Fx} {k : Nat} {w w' : World} (h : w'.heap[X.p]? = w.heap[X.p]?) : RowAt X w' k ↔ RowAt X w k := by
  have hc : w'.cell? ⟨X.p, 2, none⟩ = w.cell? ⟨X.p, 2, none⟩ := World.cell?_of_block h
  unfold RowAt
  rw [hc]
theorem ch_below {X : Fx} {w w' : World} (hp : X.p < w.heap.size) (h : Below w.heap.size w w') : Ch X w w' :=
  ⟨h.size, fun k hk _ _ hr => ⟨h.block k hk, fun hr' => hr ((rowAt_same (h.block X.p hp)).1 hr')⟩⟩
theorem rowAt_is {X : Fx} {k : Nat} {w : World} {ao : Option Addr} {n cap : Nat} (h : w.cell? ⟨X.p, 2, none⟩ = some (.slice ao n cap)) : RowAt X w k ↔ Value.ownBlock (.slice ao n cap) = some k := by
  constructor
  · rintro ⟨ao', n', cap', h1, h2⟩
    rw [h] at h1
    simp at h1
    obtain ⟨rfl, rfl, rfl⟩ := h1
    exact h2
  · exact fun h2 => ⟨ao, n, cap, h, h2⟩
def Full (X : Fx) (n : Nat) (e : Ending) (w' : World) : Prop := e = .panicked [{ v := errV X.ad, recovered := false }] ∧ 1500 < n ∧ Below X.W.heap.size X.W w'
theorem Full.more {X : Fx} {n n' : Nat} {e : Ending} {w' : World} (h : Full X n e w') (hn : n ≤ n') : Full X n' e w' := ⟨h.1, by have := h.2.1; omega, h.2.2⟩
theorem row_not {w : World} {B g p e size n cap : Nat} {T : TypeId} {ao : Option Addr} {xs ys : List Value} (hb : Blk T w p ys) (ho : w.ownsRow B e size (.slice ao n cap) n xs) (hg : Value.ownBlock (.slice ao n cap) = some g) (hT : T ≠ e) : g ≠ p := by
  rintro rfl
  rcases ho.2 with ⟨h0, _⟩ | ⟨g', cap', cur, he, _, hh, _⟩
  · rw [h0] at hg; simp [Value.ownBlock] at hg
  · simp at he
    obtain ⟨rfl, rfl⟩ := he
    simp [Value.ownBlock] at hg
    subst hg
    unfold Blk at hb
    rw [hb] at hh
    simp at hh
    exact hT hh.2
theorem row_map {w : World} {B g m e size n cap : Nat} {G : List Nat} {ao : Option Addr} {xs : List Value} (hb : MapIs w m G) (ho : w.ownsRow B e size (.slice ao n cap) n xs) (hg : Value.ownBlock (.slice ao n cap) = some g) : g ≠ m := by
  rintro rfl
  rcases ho.2 with ⟨h0, _⟩ | ⟨g', cap', cur, he, _, hh, _⟩
  · rw [h0] at hg; simp [Value.ownBlock] at hg
  · simp at he
    obtain ⟨rfl, rfl⟩ := he
    simp [Value.ownBlock] at hg
    subst hg
    obtain ⟨es, c, h1, _⟩ := hb
    rw [h1] at hh
    cases hh
theorem blk_map {w : World} {p m : Nat} {T : TypeId} {G : List Nat} {ys : List Value} (hb : Blk T w p ys) (hm : MapIs w m G) : p ≠ m := by
  rintro rfl
  obtain ⟨es, c, h1, _⟩ := hm
  unfold Blk at hb
  rw [h1] at hb
  cases hb
theorem infoOpr : (Tryz.prog.info? 92).map (fun i => (i.zero, i.size, i.bytes)) = some (some (.agg #[.int .i64 0, .int .i64 0, .string ⟨#[]⟩]), 3, 32) := by kernel_rfl
theorem cell_three_new (w : World) (a b c : Value) (T : TypeId) : ∀ j x, [a, b, c][j]? = some x → (w.alloc (.cells #[a, b, c] T)).cell? ((⟨w.heap.size, 0, none⟩ : Addr).add j) = some x := by
  intro j x hj
  have hadd : (⟨w.heap.size, 0, none⟩ : Addr).add j = ⟨w.heap.size, j, none⟩ := by unfold Addr.add; split <;> simp_all
  rw [hadd, cell_of_row _ _ j _ _ (0, 0) (heap_alloc_new w _)]
  simpa using hj

/-- A block of one's own. -/
def Bx (X : Fx) (w : World) (B : Nat) (T : TypeId) (xs : List Value) : Prop := Blk T w B xs ∧ B ≠ X.p ∧ B ≠ X.m ∧ ¬ RowAt X w B
theorem Bx.ch {X : Fx} {w w' : World} {B : Nat} {T : TypeId} {xs : List Value} (h : Bx X w B T xs) (hc : Ch X w w') : Bx X w' B T xs := by
  have := hc.own B h.1.lt h.2.1 h.2.2.1 h.2.2.2
  exact ⟨this.1.trans h.1, h.2.1, h.2.2.1, this.2⟩
theorem Bx.cell {X : Fx} {w : World} {B : Nat} {T : TypeId} {xs : List Value} (h : Bx X w B T xs) (j : Nat) {x : Value} (hx : xs[j]? = some x) : w.cell? ⟨B, j, none⟩ = some x := h.1.cell j hx

theorem flat_at {l1 l2 : List Vl} {x : Vl} : (l1 ++ x :: l2).flatMap encV = l1.flatMap encV ++ (.int .i64 x.1 :: .int .i64 x.2.1 :: .string x.2.2 :: l2.flatMap encV) := by simp [encV]
theorem flat_len : ∀ l1 : List Vl, (l1.flatMap encV).length = l1.length * 3
  | [] => rfl
  | x :: l => by simp [encV, flat_len l]; omega
theorem flat_set (l1 l2 : List Vl) (c n m : Int) (s : ByteArray) : ((l1 ++ (c, n, s) :: l2).flatMap encV).set (l1.length * 3 + 1) (.int .i64 m) = (l1 ++ (c, m, s) :: l2).flatMap encV := by
  rw [flat_at, flat_at, ← flat_len l1, List.set_append_right _ _ (by omega)]
  simp

end Cm
end Go.Proofs.YtkhoccjfkkfipaaGreatDoor
namespace Go.Proofs.YtkhoccjfkkfipaaGreatDoor
open Go.RowKit
namespace Cm
open St (Vl encV encV_len fm_len fm_get)
open Nd Mk

/-- One cell of a list of places is set. -/
theorem fm_set {vs : List Vl} {k j : Nat} {v v' : Vl} {x : Value} (hv : vs[k]? = some v) (hj : j < 3) (hx : encV v' = (encV v).set j x) : (vs.flatMap encV).set (k * 3 + j) x = (vs.set k v').flatMap encV := by
  have hk : k < vs.length := (List.getElem?_eq_some_iff.1 hv).1
  apply List.ext_getElem?
  intro p
  rw [List.getElem?_set, fm_get (by omega) encV_len, fm_get (by omega) encV_len, fm_len encV_len, List.getElem?_set]
  by_cases hp : k = p / 3
  · subst hp
    rw [if_pos rfl, if_pos hk, Option.bind_some, hv, Option.bind_some, hx, List.getElem?_set, encV_len]
    by_cases hq : j = p % 3
    · rw [if_pos hq, if_pos hj, if_pos (by omega), if_pos (by omega)]
    · rw [if_neg hq, if_neg (by omega)]
  · rw [if_neg hp, if_neg (by omega)]
/-- Places in a row that is one's own. -/
def OR (B g n cap : Nat) (w : World) (L : List Vl) : Prop := w.ownsRow B 92 3 (.slice (some ⟨g, 0, none⟩) n cap) n (L.flatMap encV)
theorem OR.len {B g n cap : Nat} {w : World} {L : List Vl} (h : OR B g n cap w L) : L.length = n := by
  have h1 := h.1
  rw [fm_len encV_len] at h1
  omega
theorem OR.set1 {B g n cap : Nat} {w : World} {L : List Vl} (h : OR B g n cap w L) {k j : Nat} {v v' : Vl} {x : Value} (hv : L[k]? = some v) (hj : j < 3) (hx : encV v' = (encV v).set j x) : OR B g n cap (w.setCell ⟨g, k * 3 + j, none⟩ x) (L.set k v') := by
  have h1 := (World.ownsRow.stored h (k * 3 + j) x).1
  rw [fm_set hv hj hx] at h1
  exact h1
theorem OR.cell {B g n cap : Nat} {w : World} {L : List Vl} (h : OR B g n cap w L) {k j : Nat} {v : Vl} {x : Value} (hv : L[k]? = some v) (hx : (encV v)[j]? = some x) : w.cell? ⟨g, k * 3 + j, none⟩ = some x := by
  have hk : k < L.length := (List.getElem?_eq_some_iff.1 hv).1
  have hl := h.len
  have hj : j < 3 := (List.getElem?_eq_some_iff.1 hx).1
  obtain ⟨g', e, hg, hc⟩ := row_cells h (show k < n by omega)
  simp at e
  subst e
  refine hc _ _ ?_
  rw [fm_get (by omega) encV_len, show (k * 3 + j) / 3 = k by omega, show (k * 3 + j) % 3 = j by omega, hv]
  exact hx
theorem OR.lt {B g n cap : Nat} {w : World} {L : List Vl} (h : OR B g n cap w L) : g < w.heap.size := (World.ownsRow.lt h g rfl).2
theorem OR.kept {B g n cap : Nat} {w w' : World} {L : List Vl} (h : OR B g n cap w L) (hb : w'.heap[g]? = w.heap[g]?) : OR B g n cap w' L := owns_same h fun g' e => by simp [Value.ownBlock] at e; subst e; exact hb
theorem OR.frozen {B g n cap : Nat} {w : World} {L : List Vl} (h : OR B g n cap w L) (j : Nat) : w.frozen? ⟨g, j, none⟩ = false := World.ownsRow.frozenAt h j

def mkV (k j : Nat) : Vl := (((k + 3 * j : Nat) : Int), ((k + 3 * j + 1 : Nat) : Int), markT (k + 3 * j + 2))
def mkVs (k n : Nat) : List Vl := (List.range n).map (mkV k)
theorem mkVs_len (k n : Nat) : (mkVs k n).length = n := by simp [mkVs]
theorem mkVs_get {k n j : Nat} (h : j < n) : (mkVs k n)[j]? = some (mkV k j) := by simp [mkVs, h]
theorem turned_set {S : Nat → Prop} {v : Value} {w w' : World} {g : Nat} (h : Turned S v w w') (hv : v.ownBlock = some g) (i : Nat) (x : Value) : Turned S v w (w'.setCell ⟨g, i, none⟩ x) :=
  ⟨h.os, h.tape, h.output, by simpa using h.size, fun j hj hn hne => by
    rw [Below.heap_setCell _ _ _ _ (fun e => hne (by rw [hv, e]))]
    exact h.block j hj hn hne⟩
theorem turned_below {S : Nat → Prop} {v : Value} {w w' w'' : World} (h : Turned S v w w') (hb : Below w'.heap.size w' w'') : Turned S v w w'' :=
  ⟨hb.os.trans h.os, hb.tape.trans h.tape, hb.output.trans h.output, Nat.le_trans h.size hb.size, fun j hj hn hne => (hb.block j (Nat.lt_of_lt_of_le hj h.size)).trans (h.block j hj hn hne)⟩

set_option maxHeartbeats 1000000 in
set_option maxRecDepth 100000 in
theorem lMarkOps {w : World} {B g n cap k : Nat} {vs : List Vl} (h : OR B g n cap w vs) (hl : vs.length = n) (hn : n ≤ 1048576) (h1 : 1 ≤ k) (hk : k ≤ 9000000) :
    Calls Tryz.prog 39 #[.slice (some ⟨g, 0, none⟩) n cap, .int .i64 k] w fun e w' => e = .returned (.int .i64 (k + 3 * n : Nat)) ∧ OR B g n cap w' (mkVs k n) ∧ Turned (fun _ => False) (.slice (some ⟨g, 0, none⟩) n cap) w w' := by
  have bn : (n : Int) ≤ 1048576 := by omega
  go_enter Tryz.func39, Tryz.ntmps39
  go_wp2_with fail
  go_loopw [1, 5] (fun kv iv wr => ∃ (i : Nat) (L : List Vl), i ≤ n ∧ iv = .int .i64 i ∧ kv = .int .i64 (k + 3 * i : Nat) ∧ L.length = n ∧ (∀ j, j < i → L[j]? = some (mkV k j)) ∧ OR B g n cap wr L ∧ Turned (fun _ => False) (.slice (some ⟨g, 0, none⟩) n cap) w wr) (fun _ iv _ => n - (intOf iv).toNat)
  case atStart => exact ⟨0, vs, Nat.zero_le _, rfl, rfl, hl, fun j hj => by omega, h, Turned.refl _ _ _⟩
  case round =>
    clear h hl
    obtain ⟨i, L, hi, rfl, rfl, hL, hM, hR, hT⟩ := hrel
    by_cases hil : i < n
    · obtain ⟨v, hv⟩ : ∃ v, L[i]? = some v := ⟨_, List.getElem?_eq_getElem (by omega)⟩
      obtain ⟨a, b, s⟩ := v
      have p0 : wr.cell? ⟨g, i * 3, none⟩ = some (.int .i64 a) := hR.cell hv (j := 0) rfl
      have p1 : wr.cell? ⟨g, i * 3 + 1, none⟩ = some (.int .i64 b) := hR.cell hv (j := 1) rfl
      have p2 : wr.cell? ⟨g, i * 3 + 2, none⟩ = some (.string s) := hR.cell hv (j := 2) rfl
      have fz := hR.frozen
      have hgl := hR.lt
      obtain ⟨k0, hk0⟩ : ∃ k0, k0 = k + 3 * i := ⟨_, rfl⟩
      have HK : Hid (k0 = k + 3 * i) := hk0
      have bk0 : (k0 : Int) ≤ 12200000 := by omega
      obtain ⟨k2, hk2⟩ : ∃ k2, k2 = k0 + 2 := ⟨_, rfl⟩
      have t2 : (k0 : Int) + 1 + 1 = (k2 : Int) := by omega
      have bk2 : (k2 : Int) ≤ 13000000 := by omega
      have mt := fun w0 : World => lMarkText k2 (by omega) (by omega) w0
      have R1 := hR.set1 (j := 0) (v' := ((k0 : Int), b, s)) (x := .int .i64 k0) hv (by omega) rfl
      have R2 := R1.set1 (j := 1) (v := ((k0 : Int), b, s)) (v' := ((k0 : Int), (k0 : Int) + 1, s)) (x := .int .i64 ((k0 : Int) + 1)) (by rw [List.getElem?_set_self (by omega)]) (by omega) rfl
      have T2 := turned_set (turned_set hT (g := g) rfl (i * 3) (.int .i64 k0)) (g := g) rfl (i * 3 + 1) (.int .i64 ((k0 : Int) + 1))
      rw [Nat.add_zero] at R1 R2
      rw [List.set_set] at R2
      have HH : Hid (OR B g n cap ((wr.setCell ⟨g, i * 3, none⟩ (.int .i64 k0)).setCell ⟨g, i * 3 + 1, none⟩ (.int .i64 ((k0 : Int) + 1))) (L.set i ((k0 : Int), (k0 : Int) + 1, s)) ∧ Turned (fun _ => False) (.slice (some ⟨g, 0, none⟩) n cap) w ((wr.setCell ⟨g, i * 3, none⟩ (.int .i64 k0)).setCell ⟨g, i * 3 + 1, none⟩ (.int .i64 ((k0 : Int) + 1)))) := ⟨R2, T2⟩
      rw [← hk0]
      have HK2 : Hid (k2 = k0 + 2) := hk2
      clear hk0 hk2 hR hT R1 R2 T2
      go_wp2_with (go_at_call 61; refine hold ?_)
      obtain ⟨R2, T2⟩ := HH.out
      refine (mt _).mono ?_
      rintro e w2 ⟨rfl, hb2⟩
      have R3 := R2.kept (w' := w2) (hb2.block _ (by simpa using hgl))
      have T3 := turned_below T2 hb2
      have hv3 : (L.set i ((k0 : Int), (k0 : Int) + 1, s))[i]? = some ((k0 : Int), (k0 : Int) + 1, s) := by rw [List.getElem?_set_self (by omega)]
      have q0 : w2.cell? ⟨g, i * 3, none⟩ = some (.int .i64 k0) := R3.cell hv3 (j := 0) rfl
      have q1 : w2.cell? ⟨g, i * 3 + 1, none⟩ = some (.int .i64 ((k0 : Int) + 1)) := R3.cell hv3 (j := 1) rfl
      have q2 : w2.cell? ⟨g, i * 3 + 2, none⟩ = some (.string s) := R3.cell hv3 (j := 2) rfl
      have fz2 := R3.frozen
      have R4 := R3.set1 (j := 2) (v' := ((k0 : Int), (k0 : Int) + 1, markT k2)) (x := .string (markT k2)) hv3 (by omega) rfl
      rw [List.set_set] at R4
      have T4 := turned_set T3 (g := g) rfl (i * 3 + 2) (.string (markT k2))
      have HH4 : Hid (OR B g n cap (w2.setCell ⟨g, i * 3 + 2, none⟩ (.string (markT k2))) (L.set i ((k0 : Int), (k0 : Int) + 1, markT k2)) ∧ Turned (fun _ => False) (.slice (some ⟨g, 0, none⟩) n cap) w (w2.setCell ⟨g, i * 3 + 2, none⟩ (.string (markT k2)))) := ⟨R4, T4⟩
      clear R2 R3 R4 T2 T3 T4 hv3 HH hb2 p0 p1 p2 fz
      go_wp2_with fail
      go_roundw
      case rel =>
        have e1 := HK.out
        have e2 := HK2.out
        refine ⟨i + 1, L.set i ((k0 : Int), (k0 : Int) + 1, markT k2), hil, by go_num, by congr 1; omega, by simpa using hL, fun j hj => ?_, HH4.out.1, HH4.out.2⟩
        by_cases hji : j = i
        · subst hji
          rw [List.getElem?_set_self (by omega)]
          subst e2 e1
          simp [mkV]
        · rw [List.getElem?_set_ne (by omega)]
          exact hM j (by omega)
      case measure => simp [intOf]; omega
    · obtain rfl : i = n := by omega
      have hLe : L = mkVs k i := by
        apply List.ext_getElem?
        intro j
        by_cases hj : j < i
        · rw [hM j hj, mkVs_get hj]
        · rw [List.getElem?_eq_none (by omega), List.getElem?_eq_none (by rw [mkVs_len]; omega)]
      subst hLe
      have HH : Hid (OR B g i cap wr (mkVs k i) ∧ Turned (fun _ => False) (.slice (some ⟨g, 0, none⟩) i cap) w wr) := ⟨hR, hT⟩
      clear hR hT hM
      go_wp2_with fail
      go_ret
      exact ⟨rfl, HH.out.1, HH.out.2⟩

end Cm
end Go.Proofs.YtkhoccjfkkfipaaGreatDoor
