/-
  Trees of a program as plain data: how deep, how many, what lies below.
  Nodes in the heap: a tree whose lists of Kids lie in blocks of their own.
  The laws' marks: markText, lists of texts.
-/
import GoSem.ClaimData
import Derived.Test.YtkhoccjfkkfipaaGreatDoorChecked
import Derived.Laws.AppendOwn
import Derived.Below
import Derived.OwnWalk
import Derived.Maps.AppendAt
import Derived.WalkKit
import Derived.WalkLawsBesides
import Derived.Deep.RegionWith
import Derived.Deep.CutBlock
import Derived.Deep.CutRange
import Derived.Deep.DeepCutAuto
import Derived.BigQuiet
import Derived.Deep.QuietTactic
import Derived.Deep.LoopGhost
namespace Go.Proofs.YtkhoccjfkkfipaaGreatDoor
namespace Nd

/-- A node: its Kids, and what else it bears. -/
def nd (op n : Int) (s : List UInt8) (kids : List Data) : Data :=
  .slice kids [.lit (.int .i64 op), .lit (.int .i64 n), .lit (.string s)]

theorem nd_inj {op n op' n' : Int} {s s' : List UInt8} {k k' : List Data} (h : nd op n s k = nd op' n' s' k') : op = op' ∧ n = n' ∧ s = s' ∧ k = k' := by
  simp only [nd, Data.slice.injEq, List.cons.injEq, Data.lit.injEq, Lit.int.injEq, Lit.string.injEq, true_and, and_true] at h
  exact ⟨h.2.1, h.2.2.1, h.2.2.2, h.1⟩

theorem tree_ind {P : Data → Prop} (h : ∀ ks lab, (∀ t ∈ ks, P t) → P (.slice ks lab)) (h1 : ∀ t, (∀ ks lab, t ≠ .slice ks lab) → P t) (t : Data) : P t := by
  match t with
  | .slice ks lab => exact h ks lab (fun t ht => tree_ind h h1 t)
  | .lit l => exact h1 _ (by simp)
  | .nil => exact h1 _ (by simp)
  | .ptr d => exact h1 _ (by simp)
  | .agg ps => exact h1 _ (by simp)
  | .iface s d => exact h1 _ (by simp)
termination_by SizeOf.sizeOf t
decreasing_by
  have := List.sizeOf_lt_of_mem ht
  simp
  omega

def kidsOf : Data → List Data
  | .slice ks _ => ks
  | _ => []

mutual
def dep : Data → Nat
  | .slice ks _ => deps ks + 1
  | _ => 1
def deps : List Data → Nat
  | [] => 0
  | t :: ts => max (dep t) (deps ts)
end
mutual
def cnt : Data → Nat
  | .slice ks _ => cnts ks + 1
  | _ => 1
def cnts : List Data → Nat
  | [] => 0
  | t :: ts => cnt t + cnts ts
end

theorem kids_nd (op n : Int) (s : List UInt8) (ks : List Data) : kidsOf (nd op n s ks) = ks := rfl
theorem dep_nd (op n : Int) (s : List UInt8) (ks : List Data) : dep (nd op n s ks) = deps ks + 1 := by simp [nd, dep]
theorem cnt_nd (op n : Int) (s : List UInt8) (ks : List Data) : cnt (nd op n s ks) = cnts ks + 1 := by simp [nd, cnt]
theorem dep_kids (t : Data) : dep t = deps (kidsOf t) + 1 := by cases t <;> simp [dep, deps, kidsOf]
theorem cnt_kids (t : Data) : cnt t = cnts (kidsOf t) + 1 := by cases t <;> simp [cnt, cnts, kidsOf]

theorem deps_mem {t : Data} : ∀ {ts : List Data}, t ∈ ts → dep t ≤ deps ts
  | a :: ts, h => by
    simp only [deps]
    rcases List.mem_cons.1 h with rfl | h
    · omega
    · have := deps_mem h; omega
theorem cnts_mem {t : Data} : ∀ {ts : List Data}, t ∈ ts → cnt t ≤ cnts ts
  | a :: ts, h => by
    simp only [cnts]
    rcases List.mem_cons.1 h with rfl | h
    · omega
    · have := cnts_mem h; omega
theorem cnts_len : ∀ ts : List Data, ts.length ≤ cnts ts
  | [] => by simp
  | t :: ts => by
    have := cnts_len ts
    have := cnt_kids t
    simp only [cnts, List.length_cons]
    omega
theorem deps_append : ∀ (us bs : List Data), deps (us ++ bs) = max (deps us) (deps bs)
  | [], bs => by simp [deps]
  | a :: us, bs => by simp only [List.cons_append, deps, deps_append us bs]; omega
theorem cnts_append : ∀ (us bs : List Data), cnts (us ++ bs) = cnts us + cnts bs
  | [], bs => by simp [cnts]
  | a :: us, bs => by simp only [List.cons_append, cnts, cnts_append us bs]; omega
theorem deps_take (ks : List Data) (k : Nat) (t : Data) (h : ks[k]? = some t) : deps (ks.take (k + 1)) = max (deps (ks.take k)) (dep t) := by
  rw [List.take_add_one, h, deps_append]
  simp [deps]
theorem deps_le (ks : List Data) (i : Nat) : deps (ks.take i) ≤ deps ks := by
  have := deps_append (ks.take i) (ks.drop i)
  rw [List.take_append_drop] at this
  omega
theorem cnts_take (ks : List Data) (k : Nat) (t : Data) (h : ks[k]? = some t) : cnts (ks.take (k + 1)) = cnts (ks.take k) + cnt t := by
  rw [List.take_add_one, h, cnts_append]
  simp [cnts]
theorem cnts_le (ks : List Data) (i : Nat) : cnts (ks.take i) ≤ cnts ks := by
  have := cnts_append (ks.take i) (ks.drop i)
  rw [List.take_append_drop] at this
  omega
theorem dep_cnt (t : Data) : dep t ≤ cnt t := by
  induction t using tree_ind with
  | h ks lab ih =>
    have : ∀ ts : List Data, (∀ t ∈ ts, dep t ≤ cnt t) → deps ts ≤ cnts ts := by
      intro ts
      induction ts with
      | nil => intro _; simp [deps]
      | cons a ts ih2 =>
        intro h
        have h1 := h a (by simp)
        have h2 := ih2 fun t ht => h t (by simp [ht])
        simp only [deps, cnts]
        omega
    have := this ks ih
    simp only [dep, cnt]
    omega
  | h1 t ht =>
    cases t <;> simp [dep, cnt]
    exact absurd rfl (ht _ _)

/-- The lists of kids of some nodes that are not empty. -/
def below1 : List Data → List (List Data)
  | [] => []
  | t :: ts => (if kidsOf t = [] then [] else [kidsOf t]) ++ below1 ts
def below : List (List Data) → List (List Data)
  | [] => []
  | l :: ls => below1 l ++ below ls
theorem below1_append : ∀ (us bs : List Data), below1 (us ++ bs) = below1 us ++ below1 bs
  | [], bs => rfl
  | a :: us, bs => by simp only [List.cons_append, below1, below1_append us bs, List.append_assoc]
theorem below_append : ∀ (us bs : List (List Data)), below (us ++ bs) = below us ++ below bs
  | [], bs => rfl
  | a :: us, bs => by simp only [List.cons_append, below, below_append us bs, List.append_assoc]
theorem below_flat : ∀ ls : List (List Data), below ls = below1 ls.flatten
  | [] => rfl
  | l :: ls => by simp only [below, List.flatten_cons, below1_append, below_flat ls]
theorem below1_ne : ∀ (ts : List Data), ∀ l ∈ below1 ts, l ≠ []
  | [], l, h => by simp [below1] at h
  | t :: ts, l, h => by
    simp only [below1, List.mem_append] at h
    rcases h with h | h
    · split at h
      · simp at h
      · simp at h; subst h; assumption
    · exact below1_ne ts l h
theorem below1_len : ∀ (ts : List Data), (below1 ts).length ≤ ts.length
  | [] => by simp [below1]
  | t :: ts => by
    have := below1_len ts
    simp only [below1, List.length_append, List.length_cons]
    split <;> simp <;> omega
theorem below1_deps : ∀ (ts : List Data), deps ts = if ts = [] then 0 else deps (below1 ts).flatten + 1
  | [] => by simp [deps]
  | t :: ts => by
    have h := below1_deps ts
    have hk := dep_kids t
    have h0 : deps (if kidsOf t = [] then ([] : List (List Data)) else [kidsOf t]).flatten = deps (kidsOf t) := by
      split
      · rename_i e; rw [e]; simp
      · simp
    rw [if_neg (by simp)]
    simp only [deps, below1, List.flatten_append, deps_append, h0]
    rw [h]
    split
    · rename_i e; subst e; simp [below1, deps]; omega
    · omega
theorem below1_cnts : ∀ (ts : List Data), cnts ts = cnts (below1 ts).flatten + ts.length
  | [] => by simp [cnts, below1]
  | t :: ts => by
    have h := below1_cnts ts
    have hk := cnt_kids t
    have h0 : cnts (if kidsOf t = [] then ([] : List (List Data)) else [kidsOf t]).flatten = cnts (kidsOf t) := by
      split
      · rename_i e; rw [e]; simp
      · simp
    simp only [cnts, below1, List.flatten_append, cnts_append, h0, List.length_cons]
    omega
theorem below1_take {ts : List Data} {k : Nat} {t : Data} (h : ts[k]? = some t) : below1 (ts.take (k + 1)) = below1 (ts.take k) ++ if kidsOf t = [] then [] else [kidsOf t] := by
  rw [List.take_add_one, h, below1_append]
  simp [below1]
theorem below_take {ls : List (List Data)} {k : Nat} {l : List Data} (h : ls[k]? = some l) : below (ls.take (k + 1)) = below (ls.take k) ++ below1 l := by
  rw [List.take_add_one, h, below_append]
  simp [below]

end Nd
end Go.Proofs.YtkhoccjfkkfipaaGreatDoor
namespace Go.Proofs.YtkhoccjfkkfipaaGreatDoor
open Go.RowKit
namespace Nd

theorem heap_lt {w : World} {g : Nat} {o : Obj} (h : w.heap[g]? = some o) : g < w.heap.size := (Array.getElem?_eq_some_iff.1 h).1
theorem heap_new (w : World) (o : Obj) : (w.alloc o).heap[w.heap.size]? = some o := heap_alloc_new w o

theorem owns_same {w w' : World} {base e size n : Nat} {v : Value} {xs : List Value} (h : w.ownsRow base e size v n xs) (hb : ∀ g, v.ownBlock = some g → w'.heap[g]? = w.heap[g]?) : w'.ownsRow base e size v n xs := by
  refine ⟨h.1, ?_⟩
  rcases h.2 with hn | ⟨g, cap, cur, hv, hb', hg, rest⟩
  · exact .inl hn
  · exact .inr ⟨g, cap, cur, hv, hb', (hb g (by subst hv; rfl)).trans hg, rest⟩

theorem owns_base {w : World} {base base' e size n : Nat} {v : Value} {xs : List Value} (h : w.ownsRow base e size v n xs) (hb : base' ≤ base) : w.ownsRow base' e size v n xs := by
  refine ⟨h.1, ?_⟩
  rcases h.2 with hn | ⟨g, cap, cur, hv, hb', rest⟩
  · exact .inl hn
  · exact .inr ⟨g, cap, cur, hv, Nat.le_trans hb hb', rest⟩

theorem owns_slice {w : World} {base e size n : Nat} {v : Value} {xs : List Value} (h : w.ownsRow base e size v n xs) : ∃ ao cap, v = .slice ao n cap := by
  rcases h.2 with ⟨rfl, rfl⟩ | ⟨g, cap, cur, rfl, _⟩
  · exact ⟨_, _, rfl⟩
  · exact ⟨_, _, rfl⟩

/-- A list that is not empty lies in a block. -/
theorem owns_block {w : World} {base e size n cap : Nat} {ao : Option Addr} {xs : List Value} (h : w.ownsRow base e size (.slice ao n cap) n xs) (hn : 0 < n) : ∃ g cur, ao = some ⟨g, 0, none⟩ ∧ w.heap[g]? = some (.cells cur e (0, 0)) := by
  rcases h.2 with ⟨_, h0⟩ | ⟨g, cap', cur, hv, _, hg, _⟩
  · omega
  · simp only [Value.slice.injEq] at hv
    exact ⟨g, cur, hv.1, hg⟩

theorem row_cells {w : World} {B e size n k cap : Nat} {ao : Option Addr} {xs : List Value} (ho : w.ownsRow B e size (.slice ao n cap) n xs) (hk : k < n) : ∃ g, ao = some ⟨g, 0, none⟩ ∧ g < w.heap.size ∧ ∀ j x, xs[j]? = some x → w.cell? ⟨g, j, none⟩ = some x := by
  rcases ho.2 with ⟨h, hn⟩ | ⟨g, cap', cur, h, _⟩
  · omega
  · simp only [Value.slice.injEq] at h
    obtain ⟨rfl, _, rfl⟩ := h
    refine ⟨g, rfl, (ho.lt g rfl).2, fun j x hx => ?_⟩
    have := ho.cells (g := g) rfl j x hx
    have hadd : (⟨g, 0, none⟩ : Addr).add j = ⟨g, j, none⟩ := by unfold Addr.add; split <;> simp_all
    rw [← hadd]
    exact this

/-- The blocks from lo on, below hi. -/
def Iv (lo hi : Nat) : Nat → Prop := fun k => lo ≤ k ∧ k < hi

end Nd
end Go.Proofs.YtkhoccjfkkfipaaGreatDoor
namespace Go.Proofs.YtkhoccjfkkfipaaGreatDoor
open Go.RowKit
namespace Mk
open Nd

def dig : Nat → Nat → ByteArray → ByteArray
  | 0, _, out => out
  | f + 1, k, out => if k = 0 then out else dig f (k / 10) ((⟨#[UInt8.ofNat (48 + k % 10)]⟩ : ByteArray) ++ out)
def markT (k : Nat) : ByteArray := (⟨#[109]⟩ : ByteArray) ++ dig (k + 1) k ⟨#[]⟩

theorem dig_step {f k : Nat} (hk : 0 < k) (out : ByteArray) : dig (f + 1) k out = dig f (k / 10) ((⟨#[UInt8.ofNat (48 + k % 10)]⟩ : ByteArray) ++ out) := by
  rw [dig, if_neg (by omega)]
theorem dig_zero (f : Nat) (out : ByteArray) : dig f 0 out = out := by cases f <;> simp [dig]

theorem byte_new (w : World) (c : UInt8) (x : Int) (hx : x = c.toNat) :
    (convert 35 9 (.slice (some ⟨w.heap.size, 0, none⟩) 1 1)).run Tryz.prog (w.alloc (.cells #[.int .u8 x] 5)) = .ok (.string ⟨#[c]⟩) (w.alloc (.cells #[.int .u8 x] 5)) := by
  subst hx
  have := run_convert_bytes_back (P := Tryz.prog) (w.alloc (.cells #[.int .u8 (c.toNat : Int)] 5)) 35 9 5 ⟨w.heap.size, 0, none⟩ 1 [c] Tryz.underlying35 Tryz.underlying5 Tryz.underlying9 (by
    intro j hj
    have h0 : j = 0 := by simpa using hj
    subst h0
    simp [Addr.add])
  exact this

set_option maxRecDepth 100000 in
theorem lMarkText (k : Nat) (h1 : 1 ≤ k) (h2 : k ≤ 40000000) (w : World) :
    Calls Tryz.prog 61 #[.int .i64 k] w fun e w' => e = .returned (.string (markT k)) ∧ Below w.heap.size w w' := by
  obtain ⟨R, hR⟩ : ∃ R, R = dig (k + 1) k ⟨#[]⟩ := ⟨_, rfl⟩
  have HR : Hid (dig (k + 1) k ⟨#[]⟩ = R) := hR.symm
  have hm : markT k = (⟨#[109]⟩ : ByteArray) ++ R := by rw [hR]; rfl
  rw [hm]
  clear hR hm
  have k1 : (1 : Int) ≤ k := by omega
  have k2 : (k : Int) ≤ 40000000 := by omega
  go_enter Tryz.func61, Tryz.ntmps61
  go_wp2_with fail
  go_loopw [0, 3] (fun kv ov wr => ∃ (n f : Nat) (out : ByteArray), kv = .int .i64 n ∧ ov = .string out ∧ n < f ∧ n + out.size ≤ 40000000 ∧ dig f n out = R ∧ Below w.heap.size w wr) (fun kv _ _ => (intOf kv).toNat)
  case atStart => exact ⟨k, k + 1, ⟨#[]⟩, rfl, rfl, by omega, by show k + 0 ≤ 40000000; omega, HR.out, Below.refl _ _⟩
  case round =>
    obtain ⟨n, f, out, rfl, rfl, hf, hn, hd, hb⟩ := hrel
    have HF : Hid (n < f ∧ n + out.size ≤ 40000000) := ⟨hf, hn⟩
    have o2 : (out.size : Int) ≤ 40000000 := by omega
    clear k1 k2 h1 h2 HR hn
    by_cases hz : n = 0
    · subst hz
      rw [dig_zero] at hd
      subst hd
      clear hf HF
      go_wp2_with fail
      go_ret
      exact ⟨rfl, hb⟩
    · obtain ⟨f, rfl⟩ : ∃ g, f = g + 1 := ⟨f - 1, by omega⟩
      rw [dig_step (by omega)] at hd
      have HD : Hid (dig f (n / 10) ((⟨#[UInt8.ofNat (48 + n % 10)]⟩ : ByteArray) ++ out) = R) := hd
      have HF := HF
      clear hd hf
      have n1 : (0 : Int) < n := by omega
      have n2 : (n : Int) ≤ 40000000 := by have := HF.out.2; omega
      clear hz
      obtain ⟨c, hc⟩ : ∃ c, c = UInt8.ofNat (48 + n % 10) := ⟨_, rfl⟩
      have hcv := byte_new wr c (48 + (n : Int) % 10) (by rw [hc]; simp; omega)
      rw [← hc] at HD
      clear hc
      go_wp2_with fail
      go_roundw
      case rel =>
        have h1 := HF.out.1
        have h2 := HF.out.2
        refine ⟨n / 10, f, _, by simp, rfl, by omega, ?_, HD.out, hb.alloc hb.size _⟩
        rw [ByteArray.size_append]
        show n / 10 + (1 + out.size) ≤ 40000000
        omega
      case measure => simp [intOf]; omega


theorem frozen_of_row {w : World} {q : Nat} {cs : Array Value} {t : TypeId} (h : w.heap[q]? = some (.cells cs t (0, 0))) (k : Nat) : w.frozen? ⟨q, k, none⟩ = false := by simp [World.frozen?, h]
theorem owns_set {w : World} {B e size n cap g : Nat} {xs : List Value} (h : w.ownsRow B e size (.slice (some ⟨g, 0, none⟩) n cap) n xs) (i : Nat) (x : Value) : (w.setCell ⟨g, i, none⟩ x).ownsRow B e size (.slice (some ⟨g, 0, none⟩) n cap) n (xs.set i x) := by
  refine ⟨by simpa using h.1, .inr ?_⟩
  rcases h.2 with ⟨hv, _⟩ | ⟨g', cap', cur, hv, hB, hg, h1, h2, h3, h4⟩
  · simp at hv
  · simp only [Value.slice.injEq, Option.some.injEq, Addr.mk.injEq] at hv
    obtain ⟨⟨rfl, _, _⟩, _, rfl⟩ := hv
    refine ⟨g, cap, cur.set! i x, rfl, hB, ?_, h1, h2, by simpa using h3, ?_⟩
    · simp [World.setCell, Array.getElem?_modify, hg]
    · rw [← h4]
      simp [Array.set!_eq_setIfInBounds, List.take_set]
theorem row_block {w : World} {B e size n cap g : Nat} {xs : List Value} (h : w.ownsRow B e size (.slice (some ⟨g, 0, none⟩) n cap) n xs) : ∃ cs, w.heap[g]? = some (.cells cs e (0, 0)) := by
  rcases h.2 with ⟨h, _⟩ | ⟨g', cap', cur, h, _, h2, _⟩
  · simp at h
  · simp only [Value.slice.injEq, Option.some.injEq, Addr.mk.injEq] at h
    obtain ⟨⟨rfl, _, _⟩, _⟩ := h
    exact ⟨cur, h2⟩
theorem set_far (w : World) (g : Nat) (x : Value) {i j : Nat} (h : j ≠ i) : (w.setCell ⟨g, i, none⟩ x).cell? ⟨g, j, none⟩ = w.cell? ⟨g, j, none⟩ := World.cell?_setCell_other _ _ _ _ (by simp <;> omega)
theorem set_fz (w : World) (a : Addr) (x : Value) (b : Addr) : (w.setCell a x).frozen? b = w.frozen? b := by simp

/-- Only blocks of S, and the list's own, have turned. -/
structure Turned (S : Nat → Prop) (v : Value) (w w' : World) : Prop where
  os : w'.os = w.os
  tape : w'.tape = w.tape
  output : w'.output = w.output
  size : w.heap.size ≤ w'.heap.size
  block : ∀ j, j < w.heap.size → ¬ S j → v.ownBlock ≠ some j → w'.heap[j]? = w.heap[j]?
theorem Turned.refl (S : Nat → Prop) (v : Value) (w : World) : Turned S v w w := ⟨rfl, rfl, rfl, Nat.le_refl _, fun _ _ _ _ => rfl⟩

end Mk
end Go.Proofs.YtkhoccjfkkfipaaGreatDoor
