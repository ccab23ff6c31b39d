/-
  Fields of a drawn line with one blank between; the draw of a line.
-/
import Derived.Test.YtjlchfielpfehaaFdImpl
import Derived.Test.YtjlchfielpfehaaDrawRex
import Derived.Test.YtjlchfielpfehaaNdTree
namespace Go.Proofs.Ytjlchfielpfehaa
open Go.RowKit Go.Extern
namespace Fd
open Go.Lib Nd

/-- A piece: not empty, without a blank. -/
def Pc (f : List UInt8) : Prop := f ≠ [] ∧ ∀ b ∈ f, b ≠ 32
theorem fds_pc : ∀ (l cur : List UInt8), (∀ b ∈ cur, b ≠ 32) → ∀ f ∈ fds cur l, Pc f ∧ f.length ≤ cur.length + l.length
  | [], cur, hc, f, hf => by
    rw [fds] at hf
    split at hf
    · simp at hf
    · rename_i h
      simp at hf
      subst hf
      exact ⟨⟨h, hc⟩, by simp⟩
  | b :: r, cur, hc, f, hf => by
    rw [fds] at hf
    split at hf
    · split at hf
      · have := fds_pc r [] (by simp) f hf
        exact ⟨this.1, by have := this.2; simp at this ⊢; omega⟩
      · rename_i h
        rcases List.mem_cons.1 hf with rfl | hf
        · exact ⟨⟨h, hc⟩, by simp⟩
        · have := fds_pc r [] (by simp) f hf
          exact ⟨this.1, by have := this.2; simp at this ⊢; omega⟩
    · rename_i h
      have := fds_pc r (cur ++ [b]) (fun x hx => by
        rcases List.mem_append.1 hx with hx | hx
        · exact hc x hx
        · simp at hx; rw [hx]; exact h) f hf
      exact ⟨this.1, by have := this.2; simp at this ⊢; omega⟩
theorem fields_pc (l : List UInt8) : ∀ f ∈ fieldsV l, Pc f ∧ f.length ≤ l.length := fun f hf => by
  have := fds_pc l [] (by simp) f hf
  exact ⟨this.1, by have := this.2; simpa using this⟩

def tl : List (List UInt8) → List UInt8
  | [] => []
  | g :: r => 32 :: (g ++ tl r)
/-- Pieces with one blank between. -/
def jn : List (List UInt8) → List UInt8
  | [] => []
  | f :: r => f ++ tl r
theorem tl_append : ∀ (xs : List (List UInt8)) (g : List UInt8), tl (xs ++ [g]) = tl xs ++ 32 :: g
  | [], g => by simp [tl]
  | x :: xs, g => by rw [List.cons_append, tl, tl, tl_append xs g]; simp
theorem jn_append (xs : List (List UInt8)) (g : List UInt8) : jn (xs ++ [g]) = jn xs ++ ((if xs.length = 0 then [] else [32]) ++ g) := by
  cases xs with
  | nil => simp [jn, tl]
  | cons x xs => rw [List.cons_append, jn, jn, tl_append]; simp
theorem fds_jn : ∀ (r : List (List UInt8)) (f : List UInt8), Pc f → (∀ g ∈ r, Pc g) → fds [] (f ++ tl r) = f :: r
  | [], f, hf, _ => by
    rw [fds_skip f [] (tl []) hf.2, tl, List.nil_append, fds, if_neg hf.1]
  | g :: r, f, hf, hr => by
    rw [fds_skip f [] (tl (g :: r)) hf.2, tl, List.nil_append, fds, if_pos rfl, if_neg hf.1, fds_jn r g (hr g (by simp)) fun x hx => hr x (by simp [hx])]
theorem fields_jn {fs : List (List UInt8)} (h : ∀ f ∈ fs, Pc f) : fieldsV (jn fs) = fs := by
  cases fs with
  | nil => rfl
  | cons f r => exact fds_jn r f (h f (by simp)) fun g hg => h g (by simp [hg])

def LP : List ByteArray := [⟨#[97]⟩, ⟨#[120]⟩, ⟨#[49, 48]⟩, ⟨#[55, 46, 53]⟩, ⟨#[97, 98, 99]⟩, ⟨#[98, 98, 99]⟩, ⟨#[45, 51]⟩, ⟨#[52]⟩, ⟨#[120, 121, 122]⟩]
theorem LP_in : ∀ s ∈ LP, s.size ≤ 24 := by decide +kernel
theorem pick_LP (B p cap : Nat) (t : TypeId) (w : World) (hC : Cur B p w) :
    Calls Try.prog 48 #[.pointer (some ⟨p, 0, none⟩), .slice (some ⟨w.heap.size, 0, none⟩) 9 cap] (w.alloc (.cells #[.string ⟨#[97]⟩, .string ⟨#[120]⟩, .string ⟨#[49, 48]⟩, .string ⟨#[55, 46, 53]⟩, .string ⟨#[97, 98, 99]⟩, .string ⟨#[98, 98, 99]⟩, .string ⟨#[45, 51]⟩, .string ⟨#[52]⟩, .string ⟨#[120, 121, 122]⟩] t)) fun e w' => ∃ x : ByteArray, e = .returned (.string x) ∧ (x.size : Int) ≤ 24 ∧ Only p w w' ∧ Cur B p w' :=
  Dr.pick_strsD B p 9 cap 0 LP t w hC rfl (by decide) (by decide) LP_in
def LB : List ByteArray := [⟨#[32]⟩, ⟨#[32]⟩, ⟨#[32, 32]⟩]
theorem LB_in : ∀ s ∈ LB, s.size ≤ 24 := by decide +kernel
theorem pick_LB (B p cap : Nat) (t : TypeId) (w : World) (hC : Cur B p w) :
    Calls Try.prog 48 #[.pointer (some ⟨p, 0, none⟩), .slice (some ⟨w.heap.size, 0, none⟩) 3 cap] (w.alloc (.cells #[.string ⟨#[32]⟩, .string ⟨#[32]⟩, .string ⟨#[32, 32]⟩] t)) fun e w' => ∃ x : ByteArray, e = .returned (.string x) ∧ (x.size : Int) ≤ 24 ∧ Only p w w' ∧ Cur B p w' :=
  Dr.pick_strsD B p 3 cap 0 LB t w hC rfl (by decide) (by decide) LB_in

set_option maxHeartbeats 1000000 in
set_option maxRecDepth 100000 in
theorem drawLine (B p : Nat) (w : World) (hC : Cur B p w) :
    Calls Try.prog 24 #[.pointer (some ⟨p, 0, none⟩)] w fun e w' => ∃ s : ByteArray, e = .returned (.string s) ∧ (s.size : Int) ≤ 240 ∧ Only p w w' ∧ Cur B p w' := by
  go_enter Try.func24, Try.ntmps24
  go_wp2_with fail
  go_loopw [3, 4] (fun v i wr => ∃ (s : ByteArray) (k : Nat), v = .string s ∧ i = .int .i64 k ∧ k ≤ 4 ∧ (s.size : Int) ≤ 48 * k ∧ Only p w wr ∧ Cur B p wr) (fun _ i _ => 8 - (intOf i).toNat)
  case atStart => exact ⟨⟨#[]⟩, 0, rfl, rfl, by omega, by decide, Only.refl _ _, hC⟩
  case round =>
    obtain ⟨s, k, rfl, rfl, hk, hs, ho, hCr⟩ := hrel
    have hkI : (k : Int) ≤ 4 := by omega
    clear hC
    go_upto_region 5 with (go_at_call 47; refine (below_small B p 5 _ hCr (by decide) (by decide)).mono ?_; rintro e w2 ⟨x, rfl, hx0, hx1, ho2, hC2⟩)
    · rename_i hlt
      go_wp2_with (go_at_call 48; first | (with_reducible refine (pick_LP B p _ _ _ hC2).mono ?_; rintro e w3 ⟨y, rfl, hy, ho3, hC3⟩) | (with_reducible refine (pick_LB B p _ _ _ hC3).mono ?_; rintro e w4 ⟨z, rfl, hz, ho4, hC4⟩))
      go_roundw
      case rel => exact ⟨s ++ y ++ z, k + 1, rfl, by go_num, by omega, by rw [ByteArray.size_append, ByteArray.size_append]; omega, ((ho.trans ho2).trans ho3).trans ho4, hC4⟩
      case measure => simp [intOf]; omega
    · go_ret
      exact ⟨s, rfl, by omega, ho.trans ho2, hC2⟩

theorem drawFields (sa : Option Addr) (len cap B : Nat) (w : World) (hB : B ≤ w.heap.size) (hl : len ≤ 1048576) (hy : Bytes B w sa len) :
    Calls Try.prog 8 #[.slice sa len cap] w fun e w' => ∃ s : ByteArray, e = .returned (.string s) ∧ (s.size : Int) ≤ 240 ∧ Below B w w' := by
  have hn := new_any sa len cap B w hB hl hy
  clear hy
  go_enter Try.func8, Try.ntmps8
  go_wp2_with (first | (go_at_call 25; refine hn.mono ?_; rintro e w1 ⟨rfl, hb, hC⟩) | (go_at_call 24; refine (drawLine B w.heap.size _ ?_).mono ?_; assumption; rintro e w' ⟨x, rfl, hx, ho, hC⟩))
  go_ret
  exact ⟨_, rfl, by assumption, (hb.mono hB).trans (Only.below (by assumption) hB (Nat.le_trans hB hb.size))⟩

set_option maxRecDepth 100000 in
theorem lSame {w : World} {v1 v2 : Value} {B1 B2 : Nat} {ss : List (List UInt8)} (h1 : w.ownsRow B1 9 1 v1 ss.length (ss.map encStr)) (h2 : w.ownsRow B2 9 1 v2 ss.length (ss.map encStr)) (hn : ss.length ≤ 3000000) :
    Calls Try.prog 10 #[v1, v2] w fun e w' => e = .returned (.bool true) ∧ ∃ n, w' = w.drewN n := by
  have bn : (ss.length : Int) ≤ 3000000 := by omega
  obtain ⟨a1, c1, rfl⟩ := owns_slice h1
  obtain ⟨a2, c2, rfl⟩ := owns_slice h2
  go_enter Try.func10, Try.ntmps10
  go_wp2_with fail
  go_loopw [5] (fun i wr => ∃ k m : Nat, i = .int .i64 k ∧ k ≤ ss.length ∧ wr = w.drewN m) (fun i _ => ss.length - (intOf i).toNat)
  case atStart => exact ⟨0, 0, rfl, Nat.zero_le _, rfl⟩
  case round =>
    obtain ⟨k, m, rfl, hk, rfl⟩ := hrel
    by_cases hkl : k < ss.length
    · have hx : (ss.map encStr)[k]? = some (.string ⟨ss[k].toArray⟩) := by rw [List.getElem?_map, List.getElem?_eq_getElem hkl]; rfl
      obtain ⟨g1, rfl, _, q1⟩ := row_cells h1 hkl
      obtain ⟨g2, rfl, _, q2⟩ := row_cells h2 hkl
      have r1 := q1 k _ hx
      have r2 := q2 k _ hx
      generalize ss[k] = x at r1 r2
      have bk : (k : Int) < ss.length := by omega
      clear q1 q2 hx h1 h2
      go_wp2_with fail
      go_quiet (fail)
      go_wp2_with fail
      go_roundw
      case rel => exact ⟨k + 1, _, by go_num, hkl, rfl⟩
      case measure => simp [intOf]; omega
    · obtain rfl : k = ss.length := by omega
      go_wp2_with fail
      go_ret
      exact ⟨rfl, m, rfl⟩

end Fd
end Go.Proofs.Ytjlchfielpfehaa
