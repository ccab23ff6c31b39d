/-
  The program's finders: bytes that are taken.
  Arrays of flags, by value: made, compared; the program's takes.
-/
import Derived.Test.YtgdnlmaacnnfiaaGreatDoorQ21
import Derived.Test.YtgdnlmaacnnfiaaGreatDoorQ17
import Derived.Deep.MidRow
namespace Go.Proofs.YtgdnlmaacnnfiaaGreatDoor
open Go.RowKit
namespace Mt
open Rx Clo

/-- A pattern without kids takes a byte. -/
def tk (op c : Nat) (ss : List UInt8) (no : Bool) (b : Nat) : Bool := if op = 1 then decide (c = b) else if op = 2 then true else (ss.any fun x => decide (x.toNat = b)) != no

theorem fit_tk {g : Nat → Nat} {n op c : Nat} {ss : List UInt8} {no : Bool} (ho : op = 1 ∨ op = 2 ∨ op = 3) {i j : Nat} : Fit g n (nd op c ss no []) i j ↔ i < n ∧ j = i + 1 ∧ tk op c ss no (g i) = true := by
  rw [fit_nd]
  rcases ho with rfl | rfl | rfl
  · simp [tk, eq_comm]
  · simp [tk]
  · cases no <;> simp [tk]

theorem any_contains (ss : List UInt8) (b : Nat) (hb : b < 256) : (ss.any fun x => decide (x.toNat = b)) = ss.contains b.toUInt8 := by
  induction ss with
  | nil => rfl
  | cons x ss ih =>
    rw [List.any_cons, List.contains_cons, ih]
    congr 1
    have h1 : (b.toUInt8).toNat = b := by simp [Nat.toUInt8]; omega
    by_cases e : x.toNat = b
    · have : x = b.toUInt8 := by apply UInt8.toNat_inj.1; rw [h1, e]
      subst this
      simp [h1]
    · have : ¬ b.toUInt8 = x := fun h => e (by rw [← h, h1])
      simp [e, this]

set_option maxRecDepth 100000 in
theorem iSetTakes (ss : List UInt8) (no : Bool) (b : Nat) (hb : b < 256) (w : World) : Calls Tryz.prog 87 #[.string ⟨ss.toArray⟩, .bool no, .int .u8 b] w fun e w' => e = .returned (.bool ((ss.any fun x => decide (x.toNat = b)) != no)) ∧ w' = w := by
  obtain ⟨z, hz⟩ : ∃ z : ByteArray, z = ⟨ss.toArray⟩ := ⟨_, rfl⟩
  obtain ⟨q, hq⟩ : ∃ q, q = Lib.indexByte ss b.toUInt8 := ⟨_, rfl⟩
  have hA : (ss.any fun x => decide (x.toNat = b)) = decide (0 ≤ q) := by rw [any_contains ss b hb, Lib.contains_iff_indexByte, hq]
  have call := Tryz.strings_IndexByte z b w
  have e1 : Lib.indexByte z.data.toList ((b : Int).toNat.toUInt8) = q := by rw [hz, hq]; simp
  rw [e1] at call
  rw [← hz, hA]
  clear hz hq e1 hA
  by_cases h0 : 0 ≤ q
  · have e2 : decide (0 ≤ q) = true := decide_eq_true h0
    go_enter Tryz.func87, Tryz.ntmps87
    go_wp2_with fail
    refine call.mono ?_
    rintro e w' ⟨rfl, hw⟩
    have hw := hw.symm
    subst hw
    go_wp2_with fail
    go_ret
    exact ⟨by cases no <;> simp [h0], rfl⟩
  · have e2 : decide (0 ≤ q) = false := decide_eq_false h0
    go_enter Tryz.func87, Tryz.ntmps87
    go_wp2_with fail
    refine call.mono ?_
    rintro e w' ⟨rfl, hw⟩
    have hw := hw.symm
    subst hw
    go_wp2_with fail
    go_ret
    exact ⟨by cases no <;> simp [h0], rfl⟩

set_option maxHeartbeats 1000000 in
set_option maxRecDepth 100000 in
theorem iTakesByte {op c : Nat} {ss : List UInt8} {no : Bool} {pv : Value} (hL : Leaf op c ss no pv) (ho : op = 1 ∨ op = 2 ∨ op = 3) (b : Nat) (hb : b < 256) (w : World) :
    Calls Tryz.prog 77 #[pv, .int .u8 b] w fun e w' => e = .returned (.bool (tk op c ss no b)) ∧ Below w.heap.size w w' := by
  rcases hL with ⟨rfl, hc, rfl, rfl, rfl⟩ | ⟨rfl, rfl, rfl, rfl, rfl⟩ | ⟨rfl, rfl, rfl⟩ | ⟨rfl, _⟩ | ⟨rfl, _⟩ | ⟨rfl, _⟩
  · have m1 := hit_oneByte
    go_enter Tryz.func77, Tryz.ntmps77
    go_wp2_with fail
    go_ret
    refine ⟨?_, Below.refl _ _⟩
    simp [tk]
    by_cases e : c = b
    · subst e; simp
    · simp [e]; omega
  · have m1 := miss_oneByte 109 (by decide)
    have m2 := hit_anyByte
    go_enter Tryz.func77, Tryz.ntmps77
    go_wp2_with fail
    go_ret
    exact ⟨by simp [tk], (Below.refl _ _).alloc (Nat.le_refl _) _⟩
  · have m1 := miss_oneByte 119 (by decide)
    have m2 := miss_anyByte 119 (by decide)
    have m3 := hit_byteSet
    obtain ⟨B, hB⟩ : ∃ B : Bool, B = ((ss.any fun x => decide (x.toNat = b)) != no) := ⟨_, rfl⟩
    have call := fun w => iSetTakes ss no b hb w
    rw [← hB] at call
    have hT : tk 3 0 ss no b = B := by rw [hB]; simp [tk]
    rw [hT]
    clear hB hT
    go_enter Tryz.func77, Tryz.ntmps77
    go_wp2_with fail
    refine (call _).mono ?_
    rintro e w' ⟨rfl, hw⟩
    have hw := hw.symm
    subst hw
    go_wp2_with fail
    go_ret
    exact ⟨rfl, (Below.refl _ _).alloc (Nat.le_refl _) _⟩
  · omega
  · omega
  · omega

/-- What is behind the bytes that are taken. -/
def behind (s : ByteArray) (f : Nat → Bool) (L : List Nat) : List Nat := (L.filter fun i => decide (i < s.size) && f (gOf s i)).map (· + 1)
theorem behind_take {s : ByteArray} {f : Nat → Bool} {L : List Nat} {k i : Nat} (h : L[k]? = some i) : behind s f (L.take (k + 1)) = behind s f (L.take k) ++ if (decide (i < s.size) && f (gOf s i)) = true then [i + 1] else [] := by
  unfold behind
  rw [List.take_add_one, h, List.filter_append, List.map_append]
  congr 1
  by_cases hb : (decide (i < s.size) && f (gOf s i)) = true
  · rw [if_pos hb]; simp only [Option.toList_some, List.filter_cons, hb, if_true]; simp
  · rw [if_neg hb]; simp only [Option.toList_some, List.filter_cons]; simp [hb]
theorem behind_len (s : ByteArray) (f : Nat → Bool) (L : List Nat) : (behind s f L).length ≤ L.length := by
  unfold behind
  rw [List.length_map]
  exact List.length_filter_le _ _
theorem behind_mem {s : ByteArray} {f : Nat → Bool} {L : List Nat} {x : Nat} : x ∈ behind s f L ↔ ∃ i, i ∈ L ∧ i < s.size ∧ f (gOf s i) = true ∧ x = i + 1 := by
  unfold behind
  rw [List.mem_map]
  constructor
  · rintro ⟨i, hi, rfl⟩
    rw [List.mem_filter] at hi
    simp at hi
    exact ⟨i, hi.1, hi.2.1, hi.2.2, rfl⟩
  · rintro ⟨i, h1, h2, h3, rfl⟩
    exact ⟨i, by rw [List.mem_filter]; simp [h1, h2, h3], rfl⟩
theorem behind_up {s : ByteArray} {f : Nat → Bool} {L : List Nat} (h : Up s.size L) : Up s.size (behind s f L) := by
  refine ⟨?_, fun x hx => ?_⟩
  · unfold behind
    rw [List.pairwise_map]
    exact (h.1.filter _).imp fun h => by omega
  · obtain ⟨i, _, h2, _, rfl⟩ := behind_mem.1 hx
    omega

set_option maxHeartbeats 2000000 in
set_option maxRecDepth 100000 in
theorem iBehindByte {op c : Nat} {ss : List UInt8} {no : Bool} {pv : Value} (hL : Leaf op c ss no pv) (ho : op = 1 ∨ op = 2 ∨ op = 3) (s : ByteArray) (hs : s.size ≤ 1000) {L : List Nat} {fv : Value} {w : World} (hrd : Rd w fv L) (hup : Up s.size L) :
    Calls Tryz.prog 52 #[pv, .string s, fv] w fun e w' => ∃ rv, e = .returned rv ∧ Rd w' rv (behind s (tk op c ss no) L) ∧ Below w.heap.size w w' := by
  obtain ⟨ao, cap, rfl, hcap, hcell⟩ := rd_form hrd
  obtain ⟨i0, hi0, hz0, hz1, hz2⟩ := info_parts Tryz.infoIntr
  have hlen := hup.len
  have bl : (L.length : Int) ≤ 1001 := by omega
  obtain ⟨T, y, rfl⟩ : ∃ T y, pv = .iface T y := by
    rcases hL with h | h | h | h | h | h
    · exact ⟨_, _, h.2.2.2.2⟩
    · exact ⟨_, _, h.2.2.2.2⟩
    · exact ⟨_, _, h.2.2⟩
    · exact ⟨_, _, h.2.2.2.2⟩
    · exact ⟨_, _, h.2.2.2.2⟩
    · exact ⟨_, _, h.2.2.2.2⟩
  obtain ⟨f, hf⟩ : ∃ f, f = tk op c ss no := ⟨_, rfl⟩
  have call : ∀ (b : Nat), b < 256 → ∀ w, Calls Tryz.prog 77 #[.iface T y, .int .u8 b] w fun e w' => e = .returned (.bool (f b)) ∧ Below w.heap.size w w' := fun b hb w => by rw [hf]; exact iTakesByte hL ho b hb w
  rw [← hf]
  clear hf hL
  go_enter Tryz.func52, Tryz.ntmps52
  go_wp2_with fail
  go_loopw [7, 12] (fun v i wr => ∃ k : Nat, k ≤ L.length ∧ i = .int .i64 k ∧ wr.ownsRow w.heap.size 3 1 v (behind s f (L.take k)).length (ints (natI (behind s f (L.take k)))) ∧ Below w.heap.size w wr) (fun _ i _ => L.length - (intOf i).toNat)
  case atStart => exact ⟨0, by omega, rfl, World.ownsRow_nil _ _ _ _, Below.refl _ _⟩
  case round =>
    obtain ⟨k, hk, rfl, hown, hb⟩ := hrel
    have hsz := hb.size
    by_cases hkl : k < L.length
    · have hx : L[k]? = some L[k] := List.getElem?_eq_getElem hkl
      obtain ⟨x, hxe⟩ : ∃ x, x = L[k] := ⟨_, rfl⟩
      have hxn : x ≤ s.size := hup.2 x (by rw [hxe]; exact List.getElem_mem _)
      rw [← hxe] at hx
      clear hxe
      obtain ⟨gx, rfl, hc⟩ := hcell k x hx
      have hgl := lt_of_cell hc
      have hc' : wr.cell? ⟨gx, k, none⟩ = some (.int .i64 x) := (hb.cell (p := ⟨gx, k, none⟩) hgl).trans hc
      have bk : (k : Int) < L.length := by omega
      have bx : (x : Int) ≤ s.size := by omega
      have bs : (s.size : Int) ≤ 1000 := by omega
      have hbl := behind_len s f (L.take k)
      rw [List.length_take] at hbl
      by_cases hxs : x < s.size
      · have hgx := gOf_in hxs
        have hlt := gOf_lt hxs
        have cl := call (gOf s x) hlt wr
        rw [hgx] at cl
        rcases hfx : f s[x].toNat with _ | _
        · rw [hfx] at cl
          have hbt : behind s f (L.take (k + 1)) = behind s f (L.take k) := by rw [behind_take hx, hgx, hfx]; simp
          go_wp2_with fail
          refine cl.mono ?_
          rintro e w1 ⟨rfl, hb1⟩
          have hs1 := hb1.size
          have ho1 := Clo.owns_same (w' := w1) hown fun g hg => hb1.block g (hown.lt g hg).2
          go_wp2_with fail
          go_roundw
          case rel => exact ⟨k + 1, by omega, by go_num, by rw [hbt]; exact ho1, hb.trans (hb1.mono hsz)⟩
          case measure => simp [intOf]; omega
        · rw [hfx] at cl
          have hbt : behind s f (L.take (k + 1)) = behind s f (L.take k) ++ [x + 1] := by rw [behind_take hx, hgx, hfx]; simp [hxs]
          obtain ⟨x1, hx1⟩ : ∃ x1, x1 = x + 1 := ⟨_, rfl⟩
          have t1 : (x : Int) + 1 = (x1 : Int) := by omega
          rw [← hx1] at hbt
          clear hx1
          go_wp2_with fail
          refine cl.mono ?_
          rintro e w1 ⟨rfl, hb1⟩
          have hs1 := hb1.size
          have ho1 := Clo.owns_same (w' := w1) hown fun g hg => hb1.block g (hown.lt g hg).2
          have hoA := ho1.alloc (.cells #[.int .i64 (x1 : Int)] 3)
          go_wp2_with (at_builtin; refine wpList_append_own_at _ rfl _ _ 29 rfl w.heap.size 3 i0 (.int .i64 0) 1 8 Tryz.underlying29 hi0 hz0 hz1 hz2 rfl (by decide) _ _ _ rfl hoA ⟨w1.heap.size, 0, none⟩ 1 1 (ints [(x1 : Int)]) rfl rfl (cell_one_new _ _ _) (ints_cell1 _) (by unfold maxLen; omega) (by omega) (by simp; omega) ?_; intro v' w2 hown' hgrow _ _)
          go_roundw
          case rel =>
            refine ⟨k + 1, by omega, by go_num, ?_, ?_⟩
            · rw [hbt, natI_snoc, ints_append, List.length_append, List.length_singleton]
              exact hown'
            · exact ((hb.trans (hb1.mono hsz)).alloc (by omega) _).grown hgrow (by simp; omega) (fun b hb => (hoA.lt b hb).1)
          case measure => simp [intOf]; omega
      · have hxe : x = s.size := by omega
        have e1 : ¬ (x : Int) < s.size := by omega
        have e2 : decide ((x : Int) < s.size) = false := decide_eq_false e1
        have e3 : decide (x < s.size) = false := decide_eq_false hxs
        have hbt : behind s f (L.take (k + 1)) = behind s f (L.take k) := by rw [behind_take hx, e3]; simp
        clear hxe
        go_wp2_with fail
        go_roundw
        case rel => exact ⟨k + 1, by omega, by go_num, by rw [hbt]; exact hown, hb⟩
        case measure => simp [intOf]; omega
    · obtain rfl : k = L.length := by omega
      rw [List.take_length] at hown
      go_wp2_with fail
      go_ret
      exact ⟨_, rfl, rd_own hown, hb⟩

end Mt
end Go.Proofs.YtgdnlmaacnnfiaaGreatDoor

namespace Go.Proofs.YtgdnlmaacnnfiaaGreatDoor
open Go.RowKit
namespace Nf
set_option linter.unusedVariables false
open Rx Clo

theorem run_eqArr {P : Program} (d n : Nat) (t e : TypeId) (M M' : Nat → Bool) (ht : P.underlying t = some (.array n e)) (he : P.underlying e = some .bool) (hs : (P.info? e).map (·.size) = some 1) (w : World) :
    (Op.equalIn (d + 2) t (.agg (bools M n)) (.agg (bools M' n))).run P w = .ok ((List.range' 0 n).all fun i => M i == M' i) w := by
  have hsz : (sizeOf e).run P w = .ok 1 w := by
    cases hq : P.info? e with
    | none => simp [hq] at hs
    | some i =>
      have : i.size = 1 := by simpa [hq] using hs
      simp [sizeOf, typeInfo, hq, this]
  have hag : (isAgg e).run P w = .ok false w := by
    unfold isAgg
    rw [Sem.run_bind, run_underlying he w]
    simp
  have hp : ∀ (X : Nat → Bool) (i : Nat), i < n → (part e (bools X n) (i * 1)).run P w = .ok (.bool (X i)) w := fun X i hi => by
    unfold part
    rw [Sem.run_bind, hag]
    simp [bools_get X hi]
  have heq : ∀ a b : Bool, (Op.equalIn (d + 1) e (.bool a) (.bool b)).run P w = .ok (a == b) w := fun a b => run_equalIn_bool w d e a b he
  have key : ∀ (K : Option Bool × Unit → World → Result Bool), K (some false, ()) w = .ok false w → K (none, ()) w = .ok true w → ∀ l : List Nat, (∀ i ∈ l, i < n) → (Sem.run P (forIn l ((none, ()) : Option Bool × Unit) fun i __s => do
            let a ← part e (bools M n) (i * 1)
            let b ← part e (bools M' n) (i * 1)
            let r ← Op.equalIn (d + 1) e a b
            if (!r) = true then pure (ForInStep.done (some false, ())) else pure (ForInStep.yield (none, ()))) w).andThen K = .ok (l.all fun i => M i == M' i) w := by
    intro K hK1 hK2 l
    induction l with
    | nil => intro _; simp [hK2]
    | cons x l ih =>
      intro h
      have h1 := hp M x (h x (by simp))
      have h2 := hp M' x (h x (by simp))
      have ih := ih fun i hi => h i (by simp [hi])
      simp only [List.forIn_cons, Sem.run_bind, h1, h2, heq, Result.andThen_ok, Sem.run_ite]
      cases hx : M x == M' x with
      | false => simp [hx, hK1]
      | true =>
        simp only [Bool.not_true, Bool.false_eq_true, if_false, Sem.run_pure, Result.andThen_ok, List.all_cons, hx, Bool.true_and]
        exact ih
  rw [Op.equalIn, Sem.run_bind, run_underlying ht w, Result.andThen_ok]
  simp only [Sem.run_bind, hsz, Result.andThen_ok]
  rw [Std.Legacy.Range.forIn_eq_forIn_range']
  have hn : [:n].size = n := by simp [Std.Legacy.Range.size]
  rw [hn]
  refine key _ ?_ ?_ (List.range' 0 n) (fun i hi => by simpa using hi)
  · rfl
  · rfl

noncomputable def takesB (x : Pl) (b : Nat) : Bool := @decide (Takes x b) (Classical.propDecidable _)
theorem takesB_iff {x : Pl} {b : Nat} : takesB x b = true ↔ Takes x b := by
  unfold takesB
  exact @decide_eq_true_iff _ (Classical.propDecidable _)
theorem takesB_is {x : Pl} {b : Nat} {r : Bool} (h : r = true ↔ Takes x b) : takesB x b = r := by
  rw [Bool.eq_iff_iff, takesB_iff, h]

set_option maxRecDepth 100000 in
set_option maxHeartbeats 1000000 in
theorem iTakes {E : Nat} (x : Pl) (h : Good E x ∨ x = doneP) (b : Nat) (hb : b < 256) (w : World) :
    Calls Tryz.prog 66 #[aggP x, .int .u8 (b : Int)] w fun e w' => e = .returned (.bool (takesB x b)) ∧ Below w.heap.size w w' := by
  have hB : ∀ o, Below w.heap.size w (w.alloc o) := fun o => (Below.refl _ w).alloc (Nat.le_refl _) o
  have hbI : (b : Int) < 256 := by omega
  rcases h with h | rfl
  · rcases h with ⟨c, rfl⟩ | rfl | ⟨s, no, rfl, hs⟩ | rfl | rfl | ⟨a, ha, rfl⟩ | ⟨a, b', ha, hb', rfl⟩
    · by_cases hc : c = b
      · subst hc
        rw [takesB_is (r := true) (by simp [Takes, byteP])]
        unfold aggP byteP
        go_enter Tryz.func66, Tryz.ntmps66
        go_wp2_with fail
        go_ret
        exact ⟨by simp, hB _⟩
      · rw [takesB_is (r := false) (by simp [Takes, byteP]; omega)]
        have hcI : ((c : Int) == (b : Int)) = false := by simp; omega
        unfold aggP byteP
        go_enter Tryz.func66, Tryz.ntmps66
        go_wp2_with fail
        go_ret
        exact ⟨by first | rfl | simp [hcI] | (simp; omega), hB _⟩
    · rw [takesB_is (r := true) (by simp [Takes, anyP])]
      unfold aggP anyP
      go_enter Tryz.func66, Tryz.ntmps66
      go_wp2_with fail
      go_ret
      exact ⟨rfl, hB _⟩
    · have hT : takesB (setP s no) b = ((s.any fun x => decide (x.toNat = b)) != no) := takesB_is (by
        unfold Takes setP
        simp only [show ((3 : Int) = 1) = False by simp, show ((3 : Int) = 2) = False by simp, false_and, false_or, true_and]
        have : (s.any fun x => decide (x.toNat = b)) = true ↔ ∃ y, y ∈ s ∧ y.toNat = b := by simp [List.any_eq_true]
        rw [← this]
        generalize (s.any fun x => decide (x.toNat = b)) = q
        cases q <;> cases no <;> simp)
      rw [hT]
      have call := Mt.iSetTakes s no b hb
      generalize ((s.any fun x => decide (x.toNat = b)) != no) = r at call
      unfold aggP setP
      go_enter Tryz.func66, Tryz.ntmps66
      go_wp2_with (go_at_call 87; refine (call _).mono ?_; rintro e w2 ⟨rfl, hw⟩; have hw := hw.symm; subst hw)
      go_ret
      exact ⟨rfl, hB _⟩
    · rw [takesB_is (r := false) (by simp [Takes, startP])]
      unfold aggP startP
      go_enter Tryz.func66, Tryz.ntmps66
      go_wp2_with fail
      go_ret
      exact ⟨rfl, hB _⟩
    · rw [takesB_is (r := false) (by simp [Takes, endP])]
      unfold aggP endP
      go_enter Tryz.func66, Tryz.ntmps66
      go_wp2_with fail
      go_ret
      exact ⟨rfl, hB _⟩
    · rw [takesB_is (r := false) (by simp [Takes, jumpP])]
      unfold aggP jumpP
      go_enter Tryz.func66, Tryz.ntmps66
      go_wp2_with fail
      go_ret
      exact ⟨rfl, hB _⟩
    · rw [takesB_is (r := false) (by simp [Takes, forkP])]
      unfold aggP forkP
      go_enter Tryz.func66, Tryz.ntmps66
      go_wp2_with fail
      go_ret
      exact ⟨rfl, hB _⟩
  · rw [takesB_is (r := false) (by simp [Takes, doneP])]
    unfold aggP doneP
    go_enter Tryz.func66, Tryz.ntmps66
    go_wp2_with fail
    go_ret
    exact ⟨rfl, hB _⟩

/-! What the walk is at, by the ways there are -/
section
variable {P : Nat → Pl} {tg : Nat → Nat} {N k : Nat}
theorem run_from {p j : Nat} (h : Run P tg N 0 k p j) : k ≤ j := h (fun _ j => k ≤ j) (Nat.le_refl _) fun a b c d hb hs => by
  rcases hs with ⟨rfl, _⟩ | ⟨_, rfl, _⟩ <;> omega
theorem run_to (hk : k ≤ N) {p j : Nat} (h : Run P tg N 0 k p j) : j ≤ N := h (fun _ j => j ≤ N) hk fun a b c d hb hs => by
  rcases hs with ⟨rfl, _⟩ | ⟨_, rfl, _⟩ <;> omega
/-- What is reached far off is reached over each place ahead of it. -/
theorem run_over {p j i : Nat} (hk : k ≤ i) (h : Run P tg N 0 k p j) (hi : i ≤ j) : ∃ p', Run P tg N 0 k p' i := by
  have key := h (fun p j => Run P tg N 0 k p j ∧ (i ≤ j → ∃ p', Run P tg N 0 k p' i)) ⟨run_refl _ _, fun hi => ⟨0, by rw [show i = k by omega]; exact run_refl _ _⟩⟩ fun a b c d hb hs => by
    refine ⟨run_step hb.1 hs, fun hi => ?_⟩
    rcases hs with ⟨rfl, _⟩ | ⟨h1, rfl, h3⟩
    · exact hb.2 hi
    · by_cases e : i ≤ b
      · exact hb.2 e
      · obtain rfl : i = b + 1 := by omega
        exact ⟨c, run_step hb.1 (.inr ⟨h1, rfl, h3⟩)⟩
  exact key.2 hi
/-- Closed under the ways without a byte. -/
def Shut (P : Nat → Pl) (N i : Nat) (H : Nat → Bool) : Prop := ∀ x, H x = true → ∀ y : Nat, (y : Int) ∈ nextV (P x).op (P x).a (P x).b x (decide (i = 0)) (decide (i = N)) → H y = true
theorem first_all {H : Nat → Bool} (h0 : H 0 = true) (hs : Shut P N k H) {p : Nat} (h : Run P tg N 0 k p k) : H p = true := by
  have key := h (fun p j => Run P tg N 0 k p j ∧ (j = k → H p = true)) ⟨run_refl _ _, fun _ => h0⟩ fun a b c d hb hst => by
    refine ⟨run_step hb.1 hst, fun e => ?_⟩
    rcases hst with ⟨rfl, h2⟩ | ⟨h1, rfl, _⟩
    · subst e
      exact hs a (hb.2 rfl) c h2
    · have := run_from hb.1
      omega
  exact key.2 rfl
theorem next_all {i : Nat} {H : Nat → Bool} (hki : k ≤ i) (hseed : ∀ x, Run P tg N 0 k x i → i < N → Takes (P x) (tg i) → H (x + 1) = true) (hs : Shut P N (i + 1) H) {p : Nat} (h : Run P tg N 0 k p (i + 1)) : H p = true := by
  have key := h (fun p j => Run P tg N 0 k p j ∧ (j = i + 1 → H p = true)) ⟨run_refl _ _, fun e => by omega⟩ fun a b c d hb hst => by
    refine ⟨run_step hb.1 hst, fun e => ?_⟩
    rcases hst with ⟨rfl, h2⟩ | ⟨h1, rfl, rfl, h4⟩
    · subst e
      exact hs a (hb.2 rfl) c h2
    · obtain rfl : b = i := by omega
      exact hseed a hb.1 h1 h4
  exact key.2 rfl

/-- Where the longest piece so far ends. -/
def To (P : Nat → Pl) (tg : Nat → Nat) (N k z i : Nat) (tt : Int) : Prop := (tt = -1 ∧ ∀ j, j < i → ¬ Run P tg N 0 k z j) ∨ ∃ j : Nat, tt = j ∧ j < i ∧ Run P tg N 0 k z j ∧ ∀ j', j < j' → j' < i → ¬ Run P tg N 0 k z j'
theorem to_start {z : Nat} : To P tg N k z k (-1) := .inl ⟨rfl, fun j hj h => by have := run_from h; omega⟩
theorem to_in {z i : Nat} {tt : Int} (h : Run P tg N 0 k z i) : To P tg N k z (i + 1) (i : Int) := .inr ⟨i, rfl, by omega, h, fun j' h1 h2 => by omega⟩
theorem to_out {z i : Nat} {tt : Int} (ht : To P tg N k z i tt) (h : ¬ Run P tg N 0 k z i) : To P tg N k z (i + 1) tt := by
  rcases ht with ⟨h1, h2⟩ | ⟨j, h1, h2, h3, h4⟩
  · refine .inl ⟨h1, fun j hj hr => ?_⟩
    by_cases e : j = i
    · subst e; exact h hr
    · exact h2 j (by omega) hr
  · refine .inr ⟨j, h1, by omega, h3, fun j' a b hr => ?_⟩
    by_cases e : j' = i
    · subst e; exact h hr
    · exact h4 j' a (by omega) hr
theorem to_far {z i m : Nat} {tt : Int} (hk : k ≤ i) (ht : To P tg N k z i tt) (h : ∀ p, ¬ Run P tg N 0 k p i) (hm : i ≤ m) : To P tg N k z m tt := by
  have hn : ∀ j, i ≤ j → ¬ Run P tg N 0 k z j := fun j hj hr => by
    obtain ⟨p', hp'⟩ := run_over hk hr hj
    exact h p' hp'
  rcases ht with ⟨h1, h2⟩ | ⟨j, h1, h2, h3, h4⟩
  · refine .inl ⟨h1, fun j hj hr => ?_⟩
    by_cases e : j < i
    · exact h2 j e hr
    · exact hn j (by omega) hr
  · refine .inr ⟨j, h1, by omega, h3, fun j' a b hr => ?_⟩
    by_cases e : j' < i
    · exact h4 j' a e hr
    · exact hn j' (by omega) hr
end

end Nf
end Go.Proofs.YtgdnlmaacnnfiaaGreatDoor

