/-
  Lists of numbers of our own that are sorted, and runs made one.
  The program's finders: lists that are read, bytes that are taken, what was not seen.
-/
import Derived.Test.YtgdnlmaacnnfiaaGreatDoorQ20
import Derived.Test.YtgdnlmaacnnfiaaGreatDoorQ01
import Derived.Sort.OwnSortedInts
import Derived.Test.YtgdnlmaacnnfiaaGreatDoorQ10
import Derived.Lib.IndexAny
import Derived.Deep.Upon
import Derived.Maps.OwnSet
namespace Go.Proofs.YtgdnlmaacnnfiaaGreatDoor
open Go.RowKit
namespace Mt
open Rx Clo

def sortL (l : List Int) : List Int := l.mergeSort fun x y => decide (x ≤ y)
theorem sortL_len (l : List Int) : (sortL l).length = l.length := by unfold sortL; exact List.length_mergeSort _
theorem sortL_mem (l : List Int) (x : Int) : x ∈ sortL l ↔ x ∈ l := by unfold sortL; exact List.mem_mergeSort
theorem sortL_up (l : List Int) : (sortL l).Pairwise (· ≤ ·) := by
  have h := List.pairwise_mergeSort (le := fun x y : Int => decide (x ≤ y)) (fun a b c h1 h2 => by simp at *; omega) (fun a b => by simp; omega) l
  unfold sortL
  exact h.imp fun h => by simpa using h

theorem iSort {B : Nat} {v : Value} {l : List Int} {w : World} (h : w.ownsRow B 3 1 v l.length (ints l)) (hl : l.length ≤ 4000000) :
    Calls Tryz.prog 73 #[v] w fun e w' => e = .returned (.tuple #[]) ∧ w'.ownsRow B 3 1 v l.length (ints (sortL l)) ∧ w.grownBy w' v.ownBlock := by
  rcases Nat.eq_zero_or_pos l.length with h0 | h0
  · obtain ⟨ao, cap, rfl⟩ := owns_len h
    have hn : l = [] := List.eq_nil_of_length_eq_zero h0
    subst hn
    refine (Tryz.slices_Sort_int_none ao cap w).mono ?_
    rintro e w' ⟨rfl, rfl⟩
    exact ⟨rfl, by simpa [sortL] using h, World.grownBy.refl _ _⟩
  · rcases h.2 with ⟨_, h1⟩ | ⟨g, cap, cur, rfl, hg, hh, h1, h2, h3, h4⟩
    · omega
    · have hH := holds_of_blockI (ss := l) hh (by simpa [ints] using h4)
      refine (Tryz.slices_Sort_int g 0 cap l w hH (heap_lt hh) (by omega)).mono ?_
      rintro e w' ⟨rfl, n, os, rfl⟩
      exact ⟨rfl, ownsRow_sortedI (ts := sortL l) (sortL_len l) hg hh h1 h2 h3, grownBy_sortedI _⟩

theorem owns_prefix {w : World} {base e g n cap : Nat} {xs ys : List Value} (h : w.ownsRow base e 1 (.slice (some ⟨g, 0, none⟩) n cap) n (xs ++ ys)) : w.ownsRow base e 1 (.slice (some ⟨g, 0, none⟩) xs.length cap) xs.length xs := by
  have hl := h.1
  rw [List.length_append, Nat.mul_one] at hl
  rcases h.2 with ⟨h0, _⟩ | ⟨g', cap', cur, he, hg, hh, h1, h2, h3, h4⟩
  · cases h0
  · cases he
    refine ⟨by omega, .inr ⟨g, cap, cur, rfl, hg, hh, by omega, h2, h3, ?_⟩⟩
    rw [Nat.mul_one] at h4 ⊢
    have : cur.toList.take xs.length = (cur.toList.take n).take xs.length := by rw [List.take_take]; congr 1; omega
    rw [this, h4, List.take_left]

theorem compactUp {d : Array Int} (hs : ∀ i j, i ≤ j → j < d.size → d[i]! ≤ d[j]!) : ∀ m, m ≤ d.size →
    (∀ x, x ∈ Lib.compactUpTo d m ↔ ∃ j, j < m ∧ d[j]! = x) ∧ (Lib.compactUpTo d m).Pairwise (· < ·) := by
  intro m
  induction m with
  | zero => intro _; simp [Lib.compactUpTo]
  | succ m ih =>
    intro hm
    obtain ⟨h1, h2⟩ := ih (by omega)
    rw [Lib.compactUpTo_succ]
    by_cases hk : Lib.keeps d m = true
    · rw [if_pos hk]
      constructor
      · intro x
        rw [List.mem_append, h1]
        constructor
        · rintro (⟨j, hj, e⟩ | h)
          · exact ⟨j, by omega, e⟩
          · simp at h; exact ⟨m, by omega, h.symm⟩
        · rintro ⟨j, hj, e⟩
          rcases Nat.lt_or_ge j m with h | h
          · exact .inl ⟨j, h, e⟩
          · have : j = m := by omega
            subst this
            exact .inr (by simp [e])
      · rw [List.pairwise_append]
        refine ⟨h2, by simp, fun a ha b hb => ?_⟩
        simp at hb
        subst hb
        obtain ⟨j, hj, rfl⟩ := (h1 a).1 ha
        have h3 := hs j (m - 1) (by omega) (by omega)
        have h4 := hs (m - 1) m (by omega) (by omega)
        simp [Lib.keeps] at hk
        rcases hk with hk | hk
        · omega
        · omega
    · rw [if_neg hk]
      simp [Lib.keeps] at hk
      refine ⟨fun x => ?_, by simpa using h2⟩
      rw [List.append_nil, h1]
      constructor
      · rintro ⟨j, hj, e⟩
        exact ⟨j, by omega, e⟩
      · rintro ⟨j, hj, e⟩
        rcases Nat.lt_or_ge j m with h | h
        · exact ⟨j, h, e⟩
        · have : j = m := by omega
          subst this
          exact ⟨j - 1, by omega, by rw [← e, hk.2]⟩

theorem sorted_at {l : List Int} (h : l.Pairwise (· ≤ ·)) : ∀ i j, i ≤ j → j < l.toArray.size → l.toArray[i]! ≤ l.toArray[j]! := by
  intro i j hij hj
  have hj' : j < l.length := by simpa using hj
  rw [getElem!_pos _ i (by simp; omega), getElem!_pos _ j hj]
  rcases Nat.eq_or_lt_of_le hij with e | h1
  · subst e; exact Int.le_refl _
  · have := List.pairwise_iff_getElem.1 h i j (by omega) hj' h1
    simpa using this

/-- Runs of equals of a sorted list are one. -/
theorem compact_sorted {l : List Int} (h : l.Pairwise (· ≤ ·)) : (∀ x, x ∈ Lib.compact l ↔ x ∈ l) ∧ (Lib.compact l).Pairwise (· < ·) := by
  obtain ⟨h1, h2⟩ := compactUp (sorted_at h) l.length (by simp)
  refine ⟨fun x => ?_, h2⟩
  unfold Lib.compact
  rw [h1]
  constructor
  · rintro ⟨j, hj, rfl⟩
    rw [getElem!_pos _ j (by simpa using hj)]
    simp
  · intro hx
    obtain ⟨j, hj, rfl⟩ := List.getElem_of_mem hx
    exact ⟨j, hj, by rw [getElem!_pos _ j (by simpa using hj)]; simp⟩

theorem compact_le (l : List Int) : (Lib.compact l).length ≤ l.length := by
  unfold Lib.compact Lib.compactUpTo
  rw [List.length_map]
  exact Nat.le_trans (List.length_filter_le _ _) (by simp)

theorem iCompact {B : Nat} {v : Value} {l : List Int} {w : World} (h : w.ownsRow B 3 1 v l.length (ints l)) (hl : l.length ≤ 4000000) :
    Calls Tryz.prog 74 #[v] w fun e w' => ∃ v', e = .returned v' ∧ w'.ownsRow B 3 1 v' (Lib.compact l).length (ints (Lib.compact l)) ∧ w.grownBy w' v.ownBlock := by
  have hcl := compact_le l
  rcases Nat.eq_zero_or_pos l.length with h0 | h0
  · obtain ⟨ao, cap, rfl⟩ := owns_len h
    have hn : l = [] := List.eq_nil_of_length_eq_zero h0
    subst hn
    refine (Tryz.slices_Compact_int_empty ao cap w).mono ?_
    rintro e w' ⟨rfl, rfl⟩
    exact ⟨_, rfl, h, World.grownBy.refl _ _⟩
  · rcases h.2 with ⟨_, h1⟩ | ⟨g, cap, cur, rfl, hg, hh, h1, h2, h3, h4⟩
    · omega
    · have hH := holds_of_blockI (ss := l) hh (by simpa [ints] using h4)
      refine (Tryz.slices_Compact_int g 0 cap l w hH (by omega) h1).mono ?_
      rintro e w' ⟨rfl, q, rfl⟩
      have ho := ownsRow_sortedI (w := w) (n := q) (os := #[]) (ss := l) (ts := Lib.compact l ++ List.replicate (l.length - (Lib.compact l).length) 0) (by simp; omega) hg hh h1 h2 h3
      have hgr := grownBy_sortedI (w := w) (g := g) (n := q) (os := #[]) (Lib.compact l ++ List.replicate (l.length - (Lib.compact l).length) 0).toArray
      rw [Sort.grow_empty] at ho hgr
      rw [List.map_append] at ho
      have hp := owns_prefix ho
      rw [List.length_map] at hp
      exact ⟨_, rfl, hp, hgr⟩

end Mt
end Go.Proofs.YtgdnlmaacnnfiaaGreatDoor

namespace Go.Proofs.YtgdnlmaacnnfiaaGreatDoor
open Go.RowKit
namespace Mt
open Rx Clo

/-- Places of a text, each once, ascending. -/
def Up (n : Nat) (L : List Nat) : Prop := L.Pairwise (· < ·) ∧ ∀ x ∈ L, x ≤ n

theorem up_len_of : ∀ (L : List Nat) (a n : Nat), L.Pairwise (· < ·) → (∀ x ∈ L, a ≤ x ∧ x < n) → L.length + a ≤ n ∨ L = []
  | [], _, _, _, _ => .inr rfl
  | x :: L, a, n, h, hx => by
    rw [List.pairwise_cons] at h
    have h1 := hx x (by simp)
    rcases up_len_of L (x + 1) n h.2 (fun y hy => ⟨h.1 y hy, (hx y (by simp [hy])).2⟩) with h2 | h2
    · simp; omega
    · subst h2; simp; omega
theorem Up.len {n : Nat} {L : List Nat} (h : Up n L) : L.length ≤ n + 1 := by
  rcases up_len_of L 0 (n + 1) h.1 (fun x hx => ⟨Nat.zero_le _, by have := h.2 x hx; omega⟩) with h1 | h1
  · omega
  · subst h1; simp

/-- The numbers L are read there. -/
def Rd (w : World) (fv : Value) (L : List Nat) : Prop := (L = [] ∧ fv = .slice none 0 0) ∨ ∃ g cap, fv = .slice (some ⟨g, 0, none⟩) L.length cap ∧ L.length ≤ cap ∧ ∀ k x : Nat, L[k]? = some x → w.cell? ⟨g, k, none⟩ = some (.int .i64 x)

theorem rd_own {w : World} {B : Nat} {v : Value} {L : List Nat} (h : w.ownsRow B 3 1 v L.length (ints (natI L))) : Rd w v L := by
  rcases h.2 with ⟨h0, h1⟩ | ⟨g, cap, cur, rfl, hg, hh, h1, _⟩
  · exact .inl ⟨List.eq_nil_of_length_eq_zero h1, h0⟩
  · exact .inr ⟨g, cap, rfl, h1, fun k x hk => owns_cell (l := natI L) h (by simp [natI, hk])⟩
theorem rd_kept {w w' : World} {fv : Value} {L : List Nat} (h : Rd w fv L) (hw : ∀ a v, w.cell? a = some v → w'.cell? a = some v) : Rd w' fv L := by
  rcases h with h | ⟨g, cap, h1, h2, h3⟩
  · exact .inl h
  · exact .inr ⟨g, cap, h1, h2, fun k x hk => hw _ _ (h3 k x hk)⟩
theorem rd_form {w : World} {fv : Value} {L : List Nat} (h : Rd w fv L) : ∃ ao cap, fv = .slice ao L.length cap ∧ L.length ≤ cap ∧ ∀ k x : Nat, L[k]? = some x → ∃ g, ao = some ⟨g, 0, none⟩ ∧ w.cell? ⟨g, k, none⟩ = some (.int .i64 x) := by
  rcases h with ⟨rfl, rfl⟩ | ⟨g, cap, rfl, h1, h2⟩
  · exact ⟨none, 0, rfl, by simp, fun k x hk => by simp at hk⟩
  · exact ⟨some ⟨g, 0, none⟩, cap, rfl, h1, fun k x hk => ⟨g, rfl, h2 k x hk⟩⟩

/-- Nothing is turned but the maps of S. -/
structure Fr (S : Nat → Prop) (w w' : World) : Prop where
  os : w'.os = w.os
  tape : w'.tape = w.tape
  output : w'.output = w.output
  size : w.heap.size ≤ w'.heap.size
  block : ∀ k, k < w.heap.size → ¬ S k → w'.heap[k]? = w.heap[k]?
theorem Fr.refl (S : Nat → Prop) (w : World) : Fr S w w := ⟨rfl, rfl, rfl, Nat.le_refl _, fun _ _ _ => rfl⟩
theorem Fr.trans {S : Nat → Prop} {a b c : World} (h : Fr S a b) (h' : Fr S b c) : Fr S a c :=
  ⟨h'.os.trans h.os, h'.tape.trans h.tape, h'.output.trans h.output, Nat.le_trans h.size h'.size, fun k hk hS => (h'.block k (Nat.lt_of_lt_of_le hk h.size) hS).trans (h.block k hk hS)⟩
theorem Fr.mono {S S' : Nat → Prop} {a b : World} (h : Fr S a b) (hS : ∀ k, S k → S' k) : Fr S' a b := ⟨h.os, h.tape, h.output, h.size, fun k hk hn => h.block k hk fun h' => hn (hS k h')⟩
theorem fr_below {S : Nat → Prop} {a b : World} (h : Below a.heap.size a b) : Fr S a b := ⟨h.os, h.tape, h.output, h.size, fun k hk _ => h.block k hk⟩
theorem Fr.alloc {S : Nat → Prop} {a b : World} (h : Fr S a b) (o : Obj) : Fr S a (b.alloc o) := h.trans ⟨rfl, rfl, rfl, by simp, fun k hk _ => Below.heap_alloc _ _ _ hk⟩
theorem Fr.grown {S : Nat → Prop} {a b c : World} {row : Option Nat} (h : Fr S a b) (hg : b.grownBy c row) (hr : ∀ k, row = some k → a.heap.size ≤ k) : Fr S a c :=
  ⟨hg.os.trans h.os, hg.tape.trans h.tape, hg.output.trans h.output, Nat.le_trans h.size hg.size, fun k hk hS => (hg.block k (Nat.lt_of_lt_of_le hk h.size) fun e => by have := hr k e.symm; omega).trans (h.block k hk hS)⟩
theorem Fr.cell {S : Nat → Prop} {a b : World} (h : Fr S a b) {ad : Addr} {v : Value} (hc : a.cell? ad = some v) (hS : ¬ S ad.block) : b.cell? ad = some v := (World.cell?_of_block (h.block _ (lt_of_cell hc) hS)).trans hc
/-- The blocks of S are maps. -/
def Maps (S : Nat → Prop) (w : World) : Prop := ∀ k, S k → ∃ es c, w.heap[k]? = some (.map es c)
theorem maps_cell {S : Nat → Prop} {w : World} (h : Maps S w) {ad : Addr} {v : Value} (hc : w.cell? ad = some v) : ¬ S ad.block := fun hs => by
  obtain ⟨es, c, he⟩ := h _ hs
  simp [World.cell?, he] at hc
theorem maps_cells {S : Nat → Prop} {w : World} (h : Maps S w) {k : Nat} {cs : Array Value} {T : TypeId} {fr : Nat × Nat} (hc : w.heap[k]? = some (.cells cs T fr)) : ¬ S k := fun hs => by
  obtain ⟨es, c, he⟩ := h _ hs
  rw [hc] at he
  cases he
theorem rd_fr {S : Nat → Prop} {w w' : World} {fv : Value} {L : List Nat} (h : Rd w fv L) (hf : Fr S w w') (hm : Maps S w) : Rd w' fv L := rd_kept h fun _ _ hc => hf.cell hc (maps_cell hm hc)

/-- A list of our own grows by what is read. -/
theorem wpList_append_rd {ops : Array Oper} {rest : List Oper} {o : Oper} {a : Act} (w : World) {Q : Exit → Act → World → Prop} (hgd : o.guard = none) (s x : Operand)
    (ho : o.op = .call { callee := .builtin .append, args := #[s, x], argTypes := #[29, 29] }) (B : Nat) (v : Value) (A L : List Nat) (hs : a.eval s = v) (hown : w.ownsRow B 3 1 v A.length (ints (natI A))) (xv : Value) (hx : a.eval x = xv) (hrd : Rd w xv L)
    (hsmall : A.length + L.length ≤ 4000000) (hbase : B ≤ w.heap.size)
    (h : ∀ v' w', w'.ownsRow B 3 1 v' (A ++ L).length (ints (natI (A ++ L))) → w.grownBy w' v.ownBlock → (v'.ownBlock = v.ownBlock ∨ v'.ownBlock = some w.heap.size) → wpList Tryz.prog ops Q rest (a.put o.dst v') w') : wpList Tryz.prog ops Q (o :: rest) a w := by
  obtain ⟨i0, hi0, hz0, hz1, hz2⟩ := info_parts Tryz.infoIntr
  have happ : ints (natI (A ++ L)) = ints (natI A) ++ ints (natI L) := by simp [ints, natI]
  rcases hrd with ⟨rfl, rfl⟩ | ⟨g, cap, rfl, hcap, hc⟩
  · obtain ⟨ao, cp, rfl⟩ := owns_len hown
    have hle : A.length ≤ cp := by
      rcases hown.2 with ⟨h0, h1⟩ | ⟨g', cap', cur, h0, _, _, h1, _⟩
      · simp at h0; omega
      · simp at h0; omega
    refine wpList_plain hgd fun K hK => ?_
    have hr := run_append_nothing (P := Tryz.prog) w 29 29 o.type 3 i0 Tryz.underlying29 hi0 ao A.length cp hle (.slice none 0 0) (Src.ofNil _ Tryz.underlying29 0)
    unfold Oper.wp execOp
    simp only [ho, resolve, invoke, builtin, Sem.run_bind, Sem.run_pure, Result.andThen_ok, List.map_toArray, List.map_cons, List.map_nil, hs, hx, hr]
    exact hK _ _ (h _ w (by simpa using hown) (World.grownBy.refl _ _) (.inl rfl))
  · refine wpList_append_own_at w hgd s x 29 ho B 3 i0 (.int .i64 0) 1 8 Tryz.underlying29 hi0 hz0 hz1 hz2 rfl (by decide) v A.length (ints (natI A)) hs hown ⟨g, 0, none⟩ L.length cap (ints (natI L)) hx (by rw [ints_len, natI_len]; omega) ?_ (ints_cell1 _) (by unfold maxLen; omega) (by omega) hbase ?_
    · intro j u hj
      have hadd : (⟨g, 0, none⟩ : Addr).add j = ⟨g, j, none⟩ := by unfold Addr.add; split <;> simp_all
      rw [hadd]
      simp only [ints, natI, List.getElem?_map, Option.map_eq_some_iff] at hj
      obtain ⟨y, ⟨z, hz, rfl⟩, rfl⟩ := hj
      exact hc j z hz
    · intro v' w' h1 h2 _ h4
      exact h v' w' (by rw [List.length_append, happ]; exact h1) h2 h4

theorem iOnlyAt {w : World} {fv : Value} {L : List Nat} {n at' : Nat} (h : Rd w fv L) (hL : Up n L) (hn : n ≤ 1000) (ha : at' ≤ n) :
    Calls Tryz.prog 43 #[fv, .int .i64 at'] w fun e w' => ∃ rv R, e = .returned rv ∧ Rd w' rv R ∧ Up n R ∧ (∀ x, x ∈ R ↔ x ∈ L ∧ x = at') ∧ Below w.heap.size w w' := by
  have hlen := hL.len
  obtain ⟨b, hb⟩ : ∃ b : Bool, b = decide (at' ∈ L) := ⟨_, rfl⟩
  have call : Calls Tryz.prog 70 #[fv, .int .i64 at'] w fun e w' => e = .returned (.bool b) ∧ w' = w := by
    rcases h with ⟨rfl, rfl⟩ | ⟨g, cap, rfl, hcap, hc⟩
    · rw [hb]; exact Tryz.slices_Contains_int_empty none 0 at' w
    · have hcon := Tryz.slices_Contains_int g 0 L.length cap (natI L) at' w (by rw [natI_len]; omega) (by omega) (fun j hj => by
        rw [natI_len] at hj
        have hx : L[j]? = some L[j] := List.getElem?_eq_getElem hj
        rw [Nat.zero_add, hc j _ hx]
        simp [natI, hx])
      refine hcon.mono ?_
      rintro e w' ⟨rfl, rfl⟩
      refine ⟨?_, rfl⟩
      rw [hb]
      have : (natI L).take L.length = natI L := by rw [← natI_len L, List.take_length]
      rw [this]
      congr 2
      simp [natI]
      constructor
      · rintro ⟨y, hy, e⟩; have : y = at' := by omega
        subst this; exact hy
      · intro hy; exact ⟨at', hy, rfl⟩
  have HB : Hid (b = decide (at' ∈ L)) := hb
  clear hb
  cases b with
  | true =>
    have hm : at' ∈ L := by have := HB.out; simpa using this.symm
    go_enter Tryz.func43, Tryz.ntmps43
    go_wp2_with fail
    refine call.mono ?_
    rintro e w' ⟨rfl, hw⟩
    have hw := hw.symm
    subst hw
    go_wp2_with fail
    go_ret
    refine ⟨_, [at'], rfl, .inr ⟨w.heap.size, 1, rfl, by simp, fun k x hk => ?_⟩, ⟨by simp, by simpa using ha⟩, fun x => ?_, (Below.refl _ _).alloc (Nat.le_refl _) _⟩
    · cases k with
      | zero => simp at hk; subst hk; rw [World.cell?_alloc_at _ _ _ _ rfl]; rfl
      | succ k => simp at hk
    · simp
      intro e; subst e; exact hm
  | false =>
    have hm : at' ∉ L := by have := HB.out; simpa using this.symm
    go_enter Tryz.func43, Tryz.ntmps43
    go_wp2_with fail
    refine call.mono ?_
    rintro e w' ⟨rfl, hw⟩
    have hw := hw.symm
    subst hw
    go_wp2_with fail
    go_ret
    refine ⟨_, [], rfl, .inl ⟨rfl, rfl⟩, ⟨by simp, by simp⟩, fun x => ?_, Below.refl _ _⟩
    simp
    rintro hx rfl
    exact hm hx

end Mt
end Go.Proofs.YtgdnlmaacnnfiaaGreatDoor

