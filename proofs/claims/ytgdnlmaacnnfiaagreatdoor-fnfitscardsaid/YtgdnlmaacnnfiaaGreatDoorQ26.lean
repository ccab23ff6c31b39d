/-
  The program's finders: lists that are read, bytes that are taken, what was not seen.
  The program's finders: bytes that are taken.
-/
import Derived.Test.YtgdnlmaacnnfiaaGreatDoorQ24
import Derived.Test.YtgdnlmaacnnfiaaGreatDoorQ25
import Derived.Lib.IndexAny
import Derived.Deep.Upon
import Derived.Maps.OwnSet
namespace Go.Proofs.YtgdnlmaacnnfiaaGreatDoor
open Go.RowKit
namespace Mt
open Rx Clo

/-- Places of a text, each once, ascending. -/
def Up (n : Nat) (L : List Nat) : Prop := L.Pairwise (· < ·) ∧ ∀ x ∈ L, x ≤ n

theorem up_len_of : ∀ (L : List Nat) (a n : Nat), L.Pairwise (· < ·) → (∀ x ∈ L, a ≤ x ∧ x < n) → L.length + a ≤ n ∨ L = []
  | [], _, _, _, _ => .inr rfl
  | x :: L, a, n, h, hx => by
    rw [List.pairwise_cons] at h
    have h1 := hx x (by simp)
    rcases up_len_of L (x + 1) n h.2 (fun y hy => ⟨h.1 y hy, (hx y (by simp [hy])).2⟩) with h2 | h2
    · simp; omega
    · subst h2; simp; omega
theorem Up.len {n : Nat} {L : List Nat} (h : Up n L) : L.length ≤ n + 1 := by
  rcases up_len_of L 0 (n + 1) h.1 (fun x hx => ⟨Nat.zero_le _, by have := h.2 x hx; omega⟩) with h1 | h1
  · omega
  · subst h1; simp

/-- The numbers L are read there. -/
def Rd (w : World) (fv : Value) (L : List Nat) : Prop := (L = [] ∧ fv = .slice none 0 0) ∨ ∃ g cap, fv = .slice (some ⟨g, 0, none⟩) L.length cap ∧ L.length ≤ cap ∧ ∀ k x : Nat, L[k]? = some x → w.cell? ⟨g, k, none⟩ = some (.int .i64 x)

theorem rd_own {w : World} {B : Nat} {v : Value} {L : List Nat} (h : w.ownsRow B 3 1 v L.length (ints (natI L))) : Rd w v L := by
  rcases h.2 with ⟨h0, h1⟩ | ⟨g, cap, cur, rfl, hg, hh, h1, _⟩
  · exact .inl ⟨List.eq_nil_of_length_eq_zero h1, h0⟩
  · exact .inr ⟨g, cap, rfl, h1, fun k x hk => owns_cell (l := natI L) h (by simp [natI, hk])⟩
theorem rd_kept {w w' : World} {fv : Value} {L : List Nat} (h : Rd w fv L) (hw : ∀ a v, w.cell? a = some v → w'.cell? a = some v) : Rd w' fv L := by
  rcases h with h | ⟨g, cap, h1, h2, h3⟩
  · exact .inl h
  · exact .inr ⟨g, cap, h1, h2, fun k x hk => hw _ _ (h3 k x hk)⟩
theorem rd_form {w : World} {fv : Value} {L : List Nat} (h : Rd w fv L) : ∃ ao cap, fv = .slice ao L.length cap ∧ L.length ≤ cap ∧ ∀ k x : Nat, L[k]? = some x → ∃ g, ao = some ⟨g, 0, none⟩ ∧ w.cell? ⟨g, k, none⟩ = some (.int .i64 x) := by
  rcases h with ⟨rfl, rfl⟩ | ⟨g, cap, rfl, h1, h2⟩
  · exact ⟨none, 0, rfl, by simp, fun k x hk => by simp at hk⟩
  · exact ⟨some ⟨g, 0, none⟩, cap, rfl, h1, fun k x hk => ⟨g, rfl, h2 k x hk⟩⟩

/-- Nothing is turned but the maps of S. -/
structure Fr (S : Nat → Prop) (w w' : World) : Prop where
  os : w'.os = w.os
  tape : w'.tape = w.tape
  output : w'.output = w.output
  size : w.heap.size ≤ w'.heap.size
  block : ∀ k, k < w.heap.size → ¬ S k → w'.heap[k]? = w.heap[k]?
theorem Fr.refl (S : Nat → Prop) (w : World) : Fr S w w := ⟨rfl, rfl, rfl, Nat.le_refl _, fun _ _ _ => rfl⟩
theorem Fr.trans {S : Nat → Prop} {a b c : World} (h : Fr S a b) (h' : Fr S b c) : Fr S a c :=
  ⟨h'.os.trans h.os, h'.tape.trans h.tape, h'.output.trans h.output, Nat.le_trans h.size h'.size, fun k hk hS => (h'.block k (Nat.lt_of_lt_of_le hk h.size) hS).trans (h.block k hk hS)⟩
theorem Fr.mono {S S' : Nat → Prop} {a b : World} (h : Fr S a b) (hS : ∀ k, S k → S' k) : Fr S' a b := ⟨h.os, h.tape, h.output, h.size, fun k hk hn => h.block k hk fun h' => hn (hS k h')⟩
theorem fr_below {S : Nat → Prop} {a b : World} (h : Below a.heap.size a b) : Fr S a b := ⟨h.os, h.tape, h.output, h.size, fun k hk _ => h.block k hk⟩
theorem Fr.alloc {S : Nat → Prop} {a b : World} (h : Fr S a b) (o : Obj) : Fr S a (b.alloc o) := h.trans ⟨rfl, rfl, rfl, by simp, fun k hk _ => Below.heap_alloc _ _ _ hk⟩
theorem Fr.grown {S : Nat → Prop} {a b c : World} {row : Option Nat} (h : Fr S a b) (hg : b.grownBy c row) (hr : ∀ k, row = some k → a.heap.size ≤ k) : Fr S a c :=
  ⟨hg.os.trans h.os, hg.tape.trans h.tape, hg.output.trans h.output, Nat.le_trans h.size hg.size, fun k hk hS => (hg.block k (Nat.lt_of_lt_of_le hk h.size) fun e => by have := hr k e.symm; omega).trans (h.block k hk hS)⟩
theorem Fr.cell {S : Nat → Prop} {a b : World} (h : Fr S a b) {ad : Addr} {v : Value} (hc : a.cell? ad = some v) (hS : ¬ S ad.block) : b.cell? ad = some v := (World.cell?_of_block (h.block _ (lt_of_cell hc) hS)).trans hc
/-- The blocks of S are maps. -/
def Maps (S : Nat → Prop) (w : World) : Prop := ∀ k, S k → ∃ es c, w.heap[k]? = some (.map es c)
theorem maps_cell {S : Nat → Prop} {w : World} (h : Maps S w) {ad : Addr} {v : Value} (hc : w.cell? ad = some v) : ¬ S ad.block := fun hs => by
  obtain ⟨es, c, he⟩ := h _ hs
  simp [World.cell?, he] at hc
theorem maps_cells {S : Nat → Prop} {w : World} (h : Maps S w) {k : Nat} {cs : Array Value} {T : TypeId} {fr : Nat × Nat} (hc : w.heap[k]? = some (.cells cs T fr)) : ¬ S k := fun hs => by
  obtain ⟨es, c, he⟩ := h _ hs
  rw [hc] at he
  cases he
theorem rd_fr {S : Nat → Prop} {w w' : World} {fv : Value} {L : List Nat} (h : Rd w fv L) (hf : Fr S w w') (hm : Maps S w) : Rd w' fv L := rd_kept h fun _ _ hc => hf.cell hc (maps_cell hm hc)

/-- A list of our own grows by what is read. -/
theorem wpList_append_rd {ops : Array Oper} {rest : List Oper} {o : Oper} {a : Act} (w : World) {Q : Exit → Act → World → Prop} (hgd : o.guard = none) (s x : Operand)
    (ho : o.op = .call { callee := .builtin .append, args := #[s, x], argTypes := #[29, 29] }) (B : Nat) (v : Value) (A L : List Nat) (hs : a.eval s = v) (hown : w.ownsRow B 3 1 v A.length (ints (natI A))) (xv : Value) (hx : a.eval x = xv) (hrd : Rd w xv L)
    (hsmall : A.length + L.length ≤ 4000000) (hbase : B ≤ w.heap.size)
    (h : ∀ v' w', w'.ownsRow B 3 1 v' (A ++ L).length (ints (natI (A ++ L))) → w.grownBy w' v.ownBlock → (v'.ownBlock = v.ownBlock ∨ v'.ownBlock = some w.heap.size) → wpList Tryz.prog ops Q rest (a.put o.dst v') w') : wpList Tryz.prog ops Q (o :: rest) a w := by
  obtain ⟨i0, hi0, hz0, hz1, hz2⟩ := info_parts Tryz.infoIntr
  have happ : ints (natI (A ++ L)) = ints (natI A) ++ ints (natI L) := by simp [ints, natI]
  rcases hrd with ⟨rfl, rfl⟩ | ⟨g, cap, rfl, hcap, hc⟩
  · obtain ⟨ao, cp, rfl⟩ := owns_len hown
    have hle : A.length ≤ cp := by
      rcases hown.2 with ⟨h0, h1⟩ | ⟨g', cap', cur, h0, _, _, h1, _⟩
      · simp at h0; omega
      · simp at h0; omega
    refine wpList_plain hgd fun K hK => ?_
    have hr := run_append_nothing (P := Tryz.prog) w 29 29 o.type 3 i0 Tryz.underlying29 hi0 ao A.length cp hle (.slice none 0 0) (Src.ofNil _ Tryz.underlying29 0)
    unfold Oper.wp execOp
    simp only [ho, resolve, invoke, builtin, Sem.run_bind, Sem.run_pure, Result.andThen_ok, List.map_toArray, List.map_cons, List.map_nil, hs, hx, hr]
    exact hK _ _ (h _ w (by simpa using hown) (World.grownBy.refl _ _) (.inl rfl))
  · refine wpList_append_own_at w hgd s x 29 ho B 3 i0 (.int .i64 0) 1 8 Tryz.underlying29 hi0 hz0 hz1 hz2 rfl (by decide) v A.length (ints (natI A)) hs hown ⟨g, 0, none⟩ L.length cap (ints (natI L)) hx (by rw [ints_len, natI_len]; omega) ?_ (ints_cell1 _) (by unfold maxLen; omega) (by omega) hbase ?_
    · intro j u hj
      have hadd : (⟨g, 0, none⟩ : Addr).add j = ⟨g, j, none⟩ := by unfold Addr.add; split <;> simp_all
      rw [hadd]
      simp only [ints, natI, List.getElem?_map, Option.map_eq_some_iff] at hj
      obtain ⟨y, ⟨z, hz, rfl⟩, rfl⟩ := hj
      exact hc j z hz
    · intro v' w' h1 h2 _ h4
      exact h v' w' (by rw [List.length_append, happ]; exact h1) h2 h4

theorem iOnlyAt {w : World} {fv : Value} {L : List Nat} {n at' : Nat} (h : Rd w fv L) (hL : Up n L) (hn : n ≤ 1000) (ha : at' ≤ n) :
    Calls Tryz.prog 43 #[fv, .int .i64 at'] w fun e w' => ∃ rv R, e = .returned rv ∧ Rd w' rv R ∧ Up n R ∧ (∀ x, x ∈ R ↔ x ∈ L ∧ x = at') ∧ Below w.heap.size w w' := by
  have hlen := hL.len
  obtain ⟨b, hb⟩ : ∃ b : Bool, b = decide (at' ∈ L) := ⟨_, rfl⟩
  have call : Calls Tryz.prog 70 #[fv, .int .i64 at'] w fun e w' => e = .returned (.bool b) ∧ w' = w := by
    rcases h with ⟨rfl, rfl⟩ | ⟨g, cap, rfl, hcap, hc⟩
    · rw [hb]; exact Tryz.slices_Contains_int_empty none 0 at' w
    · have hcon := Tryz.slices_Contains_int g 0 L.length cap (natI L) at' w (by rw [natI_len]; omega) (by omega) (fun j hj => by
        rw [natI_len] at hj
        have hx : L[j]? = some L[j] := List.getElem?_eq_getElem hj
        rw [Nat.zero_add, hc j _ hx]
        simp [natI, hx])
      refine hcon.mono ?_
      rintro e w' ⟨rfl, rfl⟩
      refine ⟨?_, rfl⟩
      rw [hb]
      have : (natI L).take L.length = natI L := by rw [← natI_len L, List.take_length]
      rw [this]
      congr 2
      simp [natI]
      constructor
      · rintro ⟨y, hy, e⟩; have : y = at' := by omega
        subst this; exact hy
      · intro hy; exact ⟨at', hy, rfl⟩
  have HB : Hid (b = decide (at' ∈ L)) := hb
  clear hb
  cases b with
  | true =>
    have hm : at' ∈ L := by have := HB.out; simpa using this.symm
    go_enter Tryz.func43, Tryz.ntmps43
    go_wp2_with fail
    refine call.mono ?_
    rintro e w' ⟨rfl, hw⟩
    have hw := hw.symm
    subst hw
    go_wp2_with fail
    go_ret
    refine ⟨_, [at'], rfl, .inr ⟨w.heap.size, 1, rfl, by simp, fun k x hk => ?_⟩, ⟨by simp, by simpa using ha⟩, fun x => ?_, (Below.refl _ _).alloc (Nat.le_refl _) _⟩
    · cases k with
      | zero => simp at hk; subst hk; rw [World.cell?_alloc_at _ _ _ _ rfl]; rfl
      | succ k => simp at hk
    · simp
      intro e; subst e; exact hm
  | false =>
    have hm : at' ∉ L := by have := HB.out; simpa using this.symm
    go_enter Tryz.func43, Tryz.ntmps43
    go_wp2_with fail
    refine call.mono ?_
    rintro e w' ⟨rfl, hw⟩
    have hw := hw.symm
    subst hw
    go_wp2_with fail
    go_ret
    refine ⟨_, [], rfl, .inl ⟨rfl, rfl⟩, ⟨by simp, by simp⟩, fun x => ?_, Below.refl _ _⟩
    simp
    rintro hx rfl
    exact hm hx

end Mt
end Go.Proofs.YtgdnlmaacnnfiaaGreatDoor

namespace Go.Proofs.YtgdnlmaacnnfiaaGreatDoor
open Go.RowKit
namespace Mt
open Rx Clo

/-- A pattern without kids takes a byte. -/
def tk (op c : Nat) (ss : List UInt8) (no : Bool) (b : Nat) : Bool := if op = 1 then decide (c = b) else if op = 2 then true else (ss.any fun x => decide (x.toNat = b)) != no

theorem fit_tk {g : Nat → Nat} {n op c : Nat} {ss : List UInt8} {no : Bool} (ho : op = 1 ∨ op = 2 ∨ op = 3) {i j : Nat} : Fit g n (nd op c ss no []) i j ↔ i < n ∧ j = i + 1 ∧ tk op c ss no (g i) = true := by
  rw [fit_nd]
  rcases ho with rfl | rfl | rfl
  · simp [tk, eq_comm]
  · simp [tk]
  · cases no <;> simp [tk]

theorem any_contains (ss : List UInt8) (b : Nat) (hb : b < 256) : (ss.any fun x => decide (x.toNat = b)) = ss.contains b.toUInt8 := by
  induction ss with
  | nil => rfl
  | cons x ss ih =>
    rw [List.any_cons, List.contains_cons, ih]
    congr 1
    have h1 : (b.toUInt8).toNat = b := by simp [Nat.toUInt8]; omega
    by_cases e : x.toNat = b
    · have : x = b.toUInt8 := by apply UInt8.toNat_inj.1; rw [h1, e]
      subst this
      simp [h1]
    · have : ¬ b.toUInt8 = x := fun h => e (by rw [← h, h1])
      simp [e, this]

set_option maxRecDepth 100000 in
theorem iSetTakes (ss : List UInt8) (no : Bool) (b : Nat) (hb : b < 256) (w : World) : Calls Tryz.prog 87 #[.string ⟨ss.toArray⟩, .bool no, .int .u8 b] w fun e w' => e = .returned (.bool ((ss.any fun x => decide (x.toNat = b)) != no)) ∧ w' = w := by
  obtain ⟨z, hz⟩ : ∃ z : ByteArray, z = ⟨ss.toArray⟩ := ⟨_, rfl⟩
  obtain ⟨q, hq⟩ : ∃ q, q = Lib.indexByte ss b.toUInt8 := ⟨_, rfl⟩
  have hA : (ss.any fun x => decide (x.toNat = b)) = decide (0 ≤ q) := by rw [any_contains ss b hb, Lib.contains_iff_indexByte, hq]
  have call := Tryz.strings_IndexByte z b w
  have e1 : Lib.indexByte z.data.toList ((b : Int).toNat.toUInt8) = q := by rw [hz, hq]; simp
  rw [e1] at call
  rw [← hz, hA]
  clear hz hq e1 hA
  by_cases h0 : 0 ≤ q
  · have e2 : decide (0 ≤ q) = true := decide_eq_true h0
    go_enter Tryz.func87, Tryz.ntmps87
    go_wp2_with fail
    refine call.mono ?_
    rintro e w' ⟨rfl, hw⟩
    have hw := hw.symm
    subst hw
    go_wp2_with fail
    go_ret
    exact ⟨by cases no <;> simp [h0], rfl⟩
  · have e2 : decide (0 ≤ q) = false := decide_eq_false h0
    go_enter Tryz.func87, Tryz.ntmps87
    go_wp2_with fail
    refine call.mono ?_
    rintro e w' ⟨rfl, hw⟩
    have hw := hw.symm
    subst hw
    go_wp2_with fail
    go_ret
    exact ⟨by cases no <;> simp [h0], rfl⟩

set_option maxHeartbeats 1000000 in
set_option maxRecDepth 100000 in
theorem iTakesByte {op c : Nat} {ss : List UInt8} {no : Bool} {pv : Value} (hL : Leaf op c ss no pv) (ho : op = 1 ∨ op = 2 ∨ op = 3) (b : Nat) (hb : b < 256) (w : World) :
    Calls Tryz.prog 77 #[pv, .int .u8 b] w fun e w' => e = .returned (.bool (tk op c ss no b)) ∧ Below w.heap.size w w' := by
  rcases hL with ⟨rfl, hc, rfl, rfl, rfl⟩ | ⟨rfl, rfl, rfl, rfl, rfl⟩ | ⟨rfl, rfl, rfl⟩ | ⟨rfl, _⟩ | ⟨rfl, _⟩ | ⟨rfl, _⟩
  · have m1 := hit_oneByte
    go_enter Tryz.func77, Tryz.ntmps77
    go_wp2_with fail
    go_ret
    refine ⟨?_, Below.refl _ _⟩
    simp [tk]
    by_cases e : c = b
    · subst e; simp
    · simp [e]; omega
  · have m1 := miss_oneByte 109 (by decide)
    have m2 := hit_anyByte
    go_enter Tryz.func77, Tryz.ntmps77
    go_wp2_with fail
    go_ret
    exact ⟨by simp [tk], (Below.refl _ _).alloc (Nat.le_refl _) _⟩
  · have m1 := miss_oneByte 119 (by decide)
    have m2 := miss_anyByte 119 (by decide)
    have m3 := hit_byteSet
    obtain ⟨B, hB⟩ : ∃ B : Bool, B = ((ss.any fun x => decide (x.toNat = b)) != no) := ⟨_, rfl⟩
    have call := fun w => iSetTakes ss no b hb w
    rw [← hB] at call
    have hT : tk 3 0 ss no b = B := by rw [hB]; simp [tk]
    rw [hT]
    clear hB hT
    go_enter Tryz.func77, Tryz.ntmps77
    go_wp2_with fail
    refine (call _).mono ?_
    rintro e w' ⟨rfl, hw⟩
    have hw := hw.symm
    subst hw
    go_wp2_with fail
    go_ret
    exact ⟨rfl, (Below.refl _ _).alloc (Nat.le_refl _) _⟩
  · omega
  · omega
  · omega

/-- What is behind the bytes that are taken. -/
def behind (s : ByteArray) (f : Nat → Bool) (L : List Nat) : List Nat := (L.filter fun i => decide (i < s.size) && f (gOf s i)).map (· + 1)
theorem behind_take {s : ByteArray} {f : Nat → Bool} {L : List Nat} {k i : Nat} (h : L[k]? = some i) : behind s f (L.take (k + 1)) = behind s f (L.take k) ++ if (decide (i < s.size) && f (gOf s i)) = true then [i + 1] else [] := by
  unfold behind
  rw [List.take_add_one, h, List.filter_append, List.map_append]
  congr 1
  by_cases hb : (decide (i < s.size) && f (gOf s i)) = true
  · rw [if_pos hb]; simp only [Option.toList_some, List.filter_cons, hb, if_true]; simp
  · rw [if_neg hb]; simp only [Option.toList_some, List.filter_cons]; simp [hb]
theorem behind_len (s : ByteArray) (f : Nat → Bool) (L : List Nat) : (behind s f L).length ≤ L.length := by
  unfold behind
  rw [List.length_map]
  exact List.length_filter_le _ _
theorem behind_mem {s : ByteArray} {f : Nat → Bool} {L : List Nat} {x : Nat} : x ∈ behind s f L ↔ ∃ i, i ∈ L ∧ i < s.size ∧ f (gOf s i) = true ∧ x = i + 1 := by
  unfold behind
  rw [List.mem_map]
  constructor
  · rintro ⟨i, hi, rfl⟩
    rw [List.mem_filter] at hi
    simp at hi
    exact ⟨i, hi.1, hi.2.1, hi.2.2, rfl⟩
  · rintro ⟨i, h1, h2, h3, rfl⟩
    exact ⟨i, by rw [List.mem_filter]; simp [h1, h2, h3], rfl⟩
theorem behind_up {s : ByteArray} {f : Nat → Bool} {L : List Nat} (h : Up s.size L) : Up s.size (behind s f L) := by
  refine ⟨?_, fun x hx => ?_⟩
  · unfold behind
    rw [List.pairwise_map]
    exact (h.1.filter _).imp fun h => by omega
  · obtain ⟨i, _, h2, _, rfl⟩ := behind_mem.1 hx
    omega

set_option maxHeartbeats 2000000 in
set_option maxRecDepth 100000 in
theorem iBehindByte {op c : Nat} {ss : List UInt8} {no : Bool} {pv : Value} (hL : Leaf op c ss no pv) (ho : op = 1 ∨ op = 2 ∨ op = 3) (s : ByteArray) (hs : s.size ≤ 1000) {L : List Nat} {fv : Value} {w : World} (hrd : Rd w fv L) (hup : Up s.size L) :
    Calls Tryz.prog 52 #[pv, .string s, fv] w fun e w' => ∃ rv, e = .returned rv ∧ Rd w' rv (behind s (tk op c ss no) L) ∧ Below w.heap.size w w' := by
  obtain ⟨ao, cap, rfl, hcap, hcell⟩ := rd_form hrd
  obtain ⟨i0, hi0, hz0, hz1, hz2⟩ := info_parts Tryz.infoIntr
  have hlen := hup.len
  have bl : (L.length : Int) ≤ 1001 := by omega
  obtain ⟨T, y, rfl⟩ : ∃ T y, pv = .iface T y := by
    rcases hL with h | h | h | h | h | h
    · exact ⟨_, _, h.2.2.2.2⟩
    · exact ⟨_, _, h.2.2.2.2⟩
    · exact ⟨_, _, h.2.2⟩
    · exact ⟨_, _, h.2.2.2.2⟩
    · exact ⟨_, _, h.2.2.2.2⟩
    · exact ⟨_, _, h.2.2.2.2⟩
  obtain ⟨f, hf⟩ : ∃ f, f = tk op c ss no := ⟨_, rfl⟩
  have call : ∀ (b : Nat), b < 256 → ∀ w, Calls Tryz.prog 77 #[.iface T y, .int .u8 b] w fun e w' => e = .returned (.bool (f b)) ∧ Below w.heap.size w w' := fun b hb w => by rw [hf]; exact iTakesByte hL ho b hb w
  rw [← hf]
  clear hf hL
  go_enter Tryz.func52, Tryz.ntmps52
  go_wp2_with fail
  go_loopw [7, 12] (fun v i wr => ∃ k : Nat, k ≤ L.length ∧ i = .int .i64 k ∧ wr.ownsRow w.heap.size 3 1 v (behind s f (L.take k)).length (ints (natI (behind s f (L.take k)))) ∧ Below w.heap.size w wr) (fun _ i _ => L.length - (intOf i).toNat)
  case atStart => exact ⟨0, by omega, rfl, World.ownsRow_nil _ _ _ _, Below.refl _ _⟩
  case round =>
    obtain ⟨k, hk, rfl, hown, hb⟩ := hrel
    have hsz := hb.size
    by_cases hkl : k < L.length
    · have hx : L[k]? = some L[k] := List.getElem?_eq_getElem hkl
      obtain ⟨x, hxe⟩ : ∃ x, x = L[k] := ⟨_, rfl⟩
      have hxn : x ≤ s.size := hup.2 x (by rw [hxe]; exact List.getElem_mem _)
      rw [← hxe] at hx
      clear hxe
      obtain ⟨gx, rfl, hc⟩ := hcell k x hx
      have hgl := lt_of_cell hc
      have hc' : wr.cell? ⟨gx, k, none⟩ = some (.int .i64 x) := (hb.cell (p := ⟨gx, k, none⟩) hgl).trans hc
      have bk : (k : Int) < L.length := by omega
      have bx : (x : Int) ≤ s.size := by omega
      have bs : (s.size : Int) ≤ 1000 := by omega
      have hbl := behind_len s f (L.take k)
      rw [List.length_take] at hbl
      by_cases hxs : x < s.size
      · have hgx := gOf_in hxs
        have hlt := gOf_lt hxs
        have cl := call (gOf s x) hlt wr
        rw [hgx] at cl
        rcases hfx : f s[x].toNat with _ | _
        · rw [hfx] at cl
          have hbt : behind s f (L.take (k + 1)) = behind s f (L.take k) := by rw [behind_take hx, hgx, hfx]; simp
          go_wp2_with fail
          refine cl.mono ?_
          rintro e w1 ⟨rfl, hb1⟩
          have hs1 := hb1.size
          have ho1 := Clo.owns_same (w' := w1) hown fun g hg => hb1.block g (hown.lt g hg).2
          go_wp2_with fail
          go_roundw
          case rel => exact ⟨k + 1, by omega, by go_num, by rw [hbt]; exact ho1, hb.trans (hb1.mono hsz)⟩
          case measure => simp [intOf]; omega
        · rw [hfx] at cl
          have hbt : behind s f (L.take (k + 1)) = behind s f (L.take k) ++ [x + 1] := by rw [behind_take hx, hgx, hfx]; simp [hxs]
          obtain ⟨x1, hx1⟩ : ∃ x1, x1 = x + 1 := ⟨_, rfl⟩
          have t1 : (x : Int) + 1 = (x1 : Int) := by omega
          rw [← hx1] at hbt
          clear hx1
          go_wp2_with fail
          refine cl.mono ?_
          rintro e w1 ⟨rfl, hb1⟩
          have hs1 := hb1.size
          have ho1 := Clo.owns_same (w' := w1) hown fun g hg => hb1.block g (hown.lt g hg).2
          have hoA := ho1.alloc (.cells #[.int .i64 (x1 : Int)] 3)
          go_wp2_with (at_builtin; refine wpList_append_own_at _ rfl _ _ 29 rfl w.heap.size 3 i0 (.int .i64 0) 1 8 Tryz.underlying29 hi0 hz0 hz1 hz2 rfl (by decide) _ _ _ rfl hoA ⟨w1.heap.size, 0, none⟩ 1 1 (ints [(x1 : Int)]) rfl rfl (cell_one_new _ _ _) (ints_cell1 _) (by unfold maxLen; omega) (by omega) (by simp; omega) ?_; intro v' w2 hown' hgrow _ _)
          go_roundw
          case rel =>
            refine ⟨k + 1, by omega, by go_num, ?_, ?_⟩
            · rw [hbt, natI_snoc, ints_append, List.length_append, List.length_singleton]
              exact hown'
            · exact ((hb.trans (hb1.mono hsz)).alloc (by omega) _).grown hgrow (by simp; omega) (fun b hb => (hoA.lt b hb).1)
          case measure => simp [intOf]; omega
      · have hxe : x = s.size := by omega
        have e1 : ¬ (x : Int) < s.size := by omega
        have e2 : decide ((x : Int) < s.size) = false := decide_eq_false e1
        have e3 : decide (x < s.size) = false := decide_eq_false hxs
        have hbt : behind s f (L.take (k + 1)) = behind s f (L.take k) := by rw [behind_take hx, e3]; simp
        clear hxe
        go_wp2_with fail
        go_roundw
        case rel => exact ⟨k + 1, by omega, by go_num, by rw [hbt]; exact hown, hb⟩
        case measure => simp [intOf]; omega
    · obtain rfl : k = L.length := by omega
      rw [List.take_length] at hown
      go_wp2_with fail
      go_ret
      exact ⟨_, rfl, rd_own hown, hb⟩

end Mt
end Go.Proofs.YtgdnlmaacnnfiaaGreatDoor

