/-
  The program's setOf at sets that some text tells.
-/
import Derived.Test.YthagicpockpfjaiDoorShelf
import Derived.Test.YthagicpockpfjaiDoorRexPatOf
import Derived.Lib.IndexAny
import Derived.Lib.IndexMore
namespace Go.Proofs.YthagicpockpfjaiDoor
open Go.RowKit
namespace Rx

theorem index_mid (p sub q : List UInt8) (hs : sub ≠ []) : 0 ≤ Lib.index (p ++ (sub ++ q)) sub := by
  induction p with
  | nil =>
    obtain ⟨b, sub, rfl⟩ : ∃ b r, sub = b :: r := List.exists_cons_of_ne_nil hs
    have : (b :: sub).isPrefixOf (b :: (sub ++ q)) = true := by simp
    simp only [List.nil_append, List.cons_append, Lib.index, this, if_true]
    omega
  | cons b p ih =>
    simp only [List.cons_append, Lib.index]
    split
    · omega
    · split
      · rename_i h
        have := eq_of_beq h
        omega
      · omega

theorem range_parts : List.range 256 = List.range 92 ++ ([92, 93, 94] ++ (List.range 161).map (· + 95)) := by decide +kernel

theorem bytes_mid {M : Nat → Bool} (h2 : M 92 = true) (h3 : M 93 = true) (h4 : M 94 = true) : ∃ p q, bytesOf M = p ++ ([92, 93, 94] ++ q) := by
  unfold bytesOf
  rw [range_parts, List.filter_append, List.filter_append, List.map_append, List.map_append]
  have h : List.filter M [92, 93, 94] = [92, 93, 94] := by simp [h2, h3, h4]
  rw [h]
  exact ⟨_, _, rfl⟩

theorem mem_bytes {M : Nat → Bool} {b : Nat} (hb : b < 256) : UInt8.ofNat b ∈ bytesOf M ↔ M b = true := by
  unfold bytesOf
  simp only [List.mem_map, List.mem_filter, List.mem_range]
  constructor
  · rintro ⟨x, ⟨hx, hM⟩, he⟩
    have := congrArg UInt8.toNat he
    simp at this
    rw [Nat.mod_eq_of_lt hx, Nat.mod_eq_of_lt hb] at this
    rw [← this]
    exact hM
  · intro h
    exact ⟨b, ⟨hb, h⟩, rfl⟩

theorem bytes_up (M : Nat → Bool) : (bytesOf M).Pairwise fun a b => a.toNat < b.toNat := by
  unfold bytesOf
  rw [List.pairwise_map]
  have h1 : ((List.range 256).filter M).Pairwise (· < ·) := List.Pairwise.filter _ List.pairwise_lt_range
  refine List.Pairwise.imp_of_mem (fun {a b} ha hb hab => ?_) h1
  have ha' := List.mem_range.1 (List.mem_filter.1 ha).1
  have hb' := List.mem_range.1 (List.mem_filter.1 hb).1
  simp
  rw [Nat.mod_eq_of_lt ha', Nat.mod_eq_of_lt hb']
  exact hab

set_option maxRecDepth 100000 in
theorem iAscends (l : List UInt8) (hl : l.length ≤ 256) (hup : l.Pairwise fun a b => a.toNat < b.toNat) (w : World) :
    Calls Tryd.prog 45 #[.string ⟨l.toArray⟩] w fun e w' => e = .returned (.bool true) ∧ ∃ n, w' = w.drewN n := by
  obtain ⟨s, hs⟩ : ∃ s : ByteArray, s = ⟨l.toArray⟩ := ⟨_, rfl⟩
  have hsz : s.size = l.length := by rw [hs]; simp [ByteArray.size]
  have hlt : ∀ i j (hi : i < s.size) (hj : j < s.size), i < j → s[i].toNat < s[j].toNat := by
    intro i j hi hj hij
    subst hs
    have := List.pairwise_iff_getElem.1 hup i j (by omega) (by omega) hij
    simpa [ByteArray.getElem_eq_getElem_data] using this
  rw [← hs]
  have bs : (s.size : Int) ≤ 256 := by omega
  clear hs hup hsz hl
  go_enter Tryd.func45, Tryd.ntmps45
  go_wp2_with fail
  go_loopw [3] (fun iv wr => ∃ k m : Nat, iv = .int .i64 ((k + 1 : Nat) : Int) ∧ k ≤ s.size ∧ wr = w.drewN m) (fun iv _ => s.size + 1 - (intOf iv).toNat)
  case atStart => exact ⟨0, 0, rfl, Nat.zero_le _, rfl⟩
  case round =>
    obtain ⟨k, m, rfl, hk, rfl⟩ := hrel
    obtain ⟨k1, hk1⟩ : ∃ k1, k1 = k + 1 := ⟨_, rfl⟩
    rw [← hk1]
    have t1 : (k1 : Int) - 1 = (k : Int) := by omega
    have HK : Hid (k1 = k + 1) := hk1
    have b1 : (1 : Int) ≤ k1 := by omega
    have hwk : IntKind.i64.wrap (k : Int) = k := by rw [IntKind.wrap_i64]; omega
    have b2 : (k1 : Int) ≤ 300 := by omega
    by_cases hkl : k1 < s.size
    · have hk0 : k < s.size := by omega
      have z := hlt k k1 hk0 hkl (by omega)
      have z1 : decide ((s[k1].toNat : Int) ≤ s[k].toNat) = false := decide_eq_false (by omega)
      have z2 : decide (s[k1].toNat ≤ s[k].toNat) = false := decide_eq_false (by omega)
      clear hk1 z hlt
      go_wp2_with fail
      go_quiet (fail)
      go_wp2_with fail
      go_roundw
      case rel => exact ⟨k1, _, by go_num, by omega, rfl⟩
      case measure => have := HK.out; simp [intOf]; omega
    · have z1 : decide ((k1 : Int) < s.size) = false := decide_eq_false (by omega)
      have z2 : decide (k1 < s.size) = false := decide_eq_false (by omega)
      clear hk1
      go_wp2_with fail
      go_ret
      exact ⟨rfl, m, rfl⟩

theorem bytes_len (M : Nat → Bool) : (bytesOf M).length ≤ 256 := by
  unfold bytesOf
  rw [List.length_map]
  have := List.length_filter_le M (List.range 256)
  simpa using this

set_option maxRecDepth 100000 in
theorem iWritable {M : Nat → Bool} {no : Bool} (hM : okSet M no) {w : World} {m : Int} (hm : w.cell? ⟨1, 0, none⟩ = some (.int .i64 m)) :
    Calls Tryd.prog 46 #[.string ⟨(bytesOf M).toArray⟩, .bool no] w fun e w' => e = .returned (.bool true) ∧ w' = w := by
  obtain ⟨h1, h2, h3⟩ := hM
  have hlen := bytes_len M
  obtain ⟨s, hs⟩ : ∃ s : ByteArray, s = ⟨(bytesOf M).toArray⟩ := ⟨_, rfl⟩
  rw [← hs]
  have hsz : s.size < 4294967281 := by rw [hs]; simp [ByteArray.size]; omega
  have c1 := Tryd.strings_Contains_one s 93 w
  have c2 := Tryd.strings_Contains s ⟨#[92, 93, 94]⟩ m w hsz hm
  have d1 : decide (0 ≤ Lib.indexByte (bytesOf M) 93) = M 93 := by
    rw [← Lib.contains_iff_indexByte]
    have := mem_bytes (M := M) (b := 93) (by omega)
    cases e : M 93 with
    | true => rw [e] at this; exact List.contains_iff_mem.2 (this.2 rfl)
    | false =>
      rw [e] at this
      cases e2 : (bytesOf M).contains 93 with
      | false => rfl
      | true => exact absurd (this.1 (List.contains_iff_mem.1 e2)) (by simp)
  have d2 : M 93 = true → Lib.contains (bytesOf M) [92, 93, 94] = true := by
    intro e
    obtain ⟨p, q, hpq⟩ := bytes_mid (h2 e).1 e (h2 e).2
    unfold Lib.contains
    rw [hpq]
    exact decide_eq_true (index_mid p _ q (by simp))
  have d3 : no = false → s ≠ ⟨#[94]⟩ := by
    intro e e2
    rw [hs] at e2
    obtain ⟨b, hb, hb2, hMb⟩ := h3 e
    have e3 : bytesOf M = [94] := by
      have := congrArg (fun x : ByteArray => x.data.toList) e2
      simpa using this
    have := (mem_bytes (M := M) hb).2 hMb
    rw [e3] at this
    simp at this
    have := congrArg UInt8.toNat this
    simp at this
    omega
  have e1 : s.data.toList = bytesOf M := by rw [hs]
  rw [e1, d1] at c1
  rw [e1] at c2
  clear hs e1 hsz hm h1 h2 h3 d1 hlen
  cases no with
  | true =>
    cases eM : M 93 with
    | true =>
      rw [eM] at c1
      rw [show (⟨#[92, 93, 94]⟩ : ByteArray).data.toList = [92, 93, 94] from rfl, d2 eM] at c2
      go_enter Tryd.func46, Tryd.ntmps46
      go_wp2_with (first | (go_at_call 50; with_reducible refine c1.mono ?_; rintro e w2 ⟨rfl, hw⟩; have hw := hw.symm; subst hw) | (go_at_call 50; with_reducible refine c2.mono ?_; rintro e w2 ⟨rfl, hw⟩; have hw := hw.symm; subst hw))
      go_ret
      exact ⟨rfl, rfl⟩
    | false =>
      rw [eM] at c1
      go_enter Tryd.func46, Tryd.ntmps46
      go_wp2_with (first | (go_at_call 50; with_reducible refine c1.mono ?_; rintro e w2 ⟨rfl, hw⟩; have hw := hw.symm; subst hw))
      go_ret
      exact ⟨rfl, rfl⟩
  | false =>
    have hne := d3 rfl
    have n1 : (s.toList == [94]) = false := by
      cases e : s.toList == [94] with
      | false => rfl
      | true =>
        refine absurd ?_ hne
        have h1 : s.data.toList = [94] := by rw [← ByteArray.toList_eq]; exact eq_of_beq e
        exact ByteArray.ext (Array.ext' h1)
    clear hne d3
    cases eM : M 93 with
    | true =>
      rw [eM] at c1
      rw [show (⟨#[92, 93, 94]⟩ : ByteArray).data.toList = [92, 93, 94] from rfl, d2 eM] at c2
      go_enter Tryd.func46, Tryd.ntmps46
      go_wp2_with (first | (go_at_call 50; with_reducible refine c1.mono ?_; rintro e w2 ⟨rfl, hw⟩; have hw := hw.symm; subst hw) | (go_at_call 50; with_reducible refine c2.mono ?_; rintro e w2 ⟨rfl, hw⟩; have hw := hw.symm; subst hw))
      go_ret
      exact ⟨rfl, rfl⟩
    | false =>
      rw [eM] at c1
      go_enter Tryd.func46, Tryd.ntmps46
      go_wp2_with (first | (go_at_call 50; with_reducible refine c1.mono ?_; rintro e w2 ⟨rfl, hw⟩; have hw := hw.symm; subst hw))
      go_ret
      exact ⟨rfl, rfl⟩

set_option maxRecDepth 100000 in
theorem setOk {W : World} {m : Int} (hm : W.cell? ⟨1, 0, none⟩ = some (.int .i64 m)) : SetOk W := by
  intro M no w hM hW
  have hm' : ∀ n, (w.drewN n).cell? ⟨1, 0, none⟩ = some (.int .i64 m) := fun n => (hW.cell (p := ⟨1, 0, none⟩) (World.block_lt_of_cell? W _ hm)).trans hm
  have c1 := iAscends (bytesOf M) (bytes_len M) (bytes_up M) w
  have c2 := fun n => iWritable hM (hm' n)
  have hne := hM.1
  obtain ⟨s, hs⟩ : ∃ s : ByteArray, s = ⟨(bytesOf M).toArray⟩ := ⟨_, rfl⟩
  have n1 : (s.toList == []) = false := by
    cases e : s.toList == [] with
    | false => rfl
    | true =>
      refine absurd ?_ hne
      have h1 : s.data.toList = [] := by rw [← ByteArray.toList_eq]; exact eq_of_beq e
      rw [hs] at h1
      simpa using h1
  have n2 : s.isEmpty = false := by
    cases e : s.isEmpty with
    | false => rfl
    | true =>
      refine absurd ?_ hne
      have h1 : s.size = 0 := by simpa [ByteArray.isEmpty] using e
      rw [hs] at h1
      simpa [ByteArray.size] using h1
  rw [← hs] at c1 ⊢
  simp only [← hs] at c2
  clear hs hm' hne hM
  go_enter Tryd.func38, Tryd.ntmps38
  go_wp2_with (first | (go_at_call 45; refine c1.mono ?_; rintro e w2 ⟨rfl, n, rfl⟩) | (go_at_call 46; refine (c2 n).mono ?_; rintro e w3 ⟨rfl, hw⟩; have hw := hw.symm; subst hw))
  go_ret
  exact ⟨rfl, ⟨rfl, rfl, rfl, Nat.le_refl _, fun _ _ => rfl⟩⟩

end Rx
end Go.Proofs.YthagicpockpfjaiDoor
