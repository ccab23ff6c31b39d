/-
  The draws of texts: l1Pick over strings, l2DrawText, DrawDecText, DrawDecFront, DrawDecLooks.
-/
import Derived.Test.YtdkeinnljbfopadGreatDoorDrawDec
import Derived.Test.YtdkeinnljbfopadGreatDoorNumTextSpec
namespace Go.Proofs.YtdkeinnljbfopadGreatDoor
open Go.RowKit Go.Extern

theorem Only.of_below {p : Nat} {w w' : World} (h : Below w.heap.size w w') : Only p w w' := ⟨h.os, h.tape, h.output, h.size, fun k _ hk => h.block k hk⟩
theorem Cur.grown {B p : Nat} {w w' : World} (hC : Cur B p w) (h : Below w.heap.size w w') : Cur B p w' :=
  hC.frame (q := w.heap.size) (Only.of_below h) (by have := hC.lt; omega) (by have := hC.le; have := hC.lt; omega)
theorem Cur.drewN {B p : Nat} {w : World} (hC : Cur B p w) (n : Nat) : Cur B p (w.drewN n) := hC.grown (below_drewN (Below.refl _ _) n)
theorem alloc_strs (w : World) (xs : List ByteArray) (t : TypeId) (k : Nat) (hk : k < xs.length) : (w.alloc (.cells (xs.map Value.string).toArray t)).cell? ⟨w.heap.size, k, none⟩ = some (.string xs[k]) := by
  rw [World.cell?_alloc_at _ _ _ _ rfl]
  simp [hk]
theorem list_str {p q : Nat} {x : Int} {xs : List ByteArray} {w w' : World} (ho : Only p w w') (hq : q ≠ p) (hql : q < w.heap.size)
    (hx : ∀ k, (hk : k < xs.length) → w.cell? ⟨q, k, none⟩ = some (.string xs[k])) (h0 : 0 ≤ x) (h1 : x < xs.length) : ∃ v, v ∈ xs ∧ w'.cell? ⟨q, x.toNat, none⟩ = some (.string v) :=
  ⟨xs[x.toNat]'(by omega), List.getElem_mem _, by rw [ho.cell (a := ⟨q, x.toNat, none⟩) hq hql]; exact hx _ _⟩

/-- l1Pick over a list of strings that lies in a block of its own. -/
theorem pick_str (B p q cap : Nat) (xs : List ByteArray) (w : World) (hC : Cur B p w) (hq : q ≠ p) (hql : q < w.heap.size) (h0 : 0 < xs.length) (h1 : xs.length ≤ 256)
    (hx : ∀ k, (hk : k < xs.length) → w.cell? ⟨q, k, none⟩ = some (.string xs[k])) :
    Calls Tryz.prog 79 #[.pointer (some ⟨p, 0, none⟩), .slice (some ⟨q, 0, none⟩) xs.length cap] w fun e w' => ∃ x, x ∈ xs ∧ e = .returned (.string x) ∧ Only p w w' ∧ Cur B p w' := by
  have i0 : (0 : Int) < (xs.length : Int) := by omega
  have i1 : (xs.length : Int) ≤ 256 := by omega
  have hl : ∀ w' x, Only p w w' → 0 ≤ x → x < (xs.length : Int) → ∃ v, v ∈ xs ∧ w'.cell? ⟨q, x.toNat, none⟩ = some (.string v) := fun w' x ho => list_str ho hq hql hx
  clear hx
  go_enter Tryz.func79, Tryz.ntmps79
  go_wp2_with (go_at_call 45; refine (below_small B p _ _ ?_ i0 i1).mono ?_; assumption; rintro e w' ⟨x, rfl, hx0, hx1, ho, hC'⟩; obtain ⟨v, hv, hvc⟩ := hl w' x ho hx0 hx1)
  go_ret
  exact ⟨_, hv, rfl, by assumption, by assumption⟩
theorem pick_strs (B p n cap : Nat) (xs : List ByteArray) (t : TypeId) (w : World) (hC : Cur B p w) (hn : xs.length = n) (h0 : 0 < n) (h1 : n ≤ 256) (hs : ∀ s ∈ xs, s.size ≤ 24) :
    Calls Tryz.prog 79 #[.pointer (some ⟨p, 0, none⟩), .slice (some ⟨w.heap.size, 0, none⟩) n cap] (w.alloc (.cells (xs.map Value.string).toArray t)) fun e w' => ∃ x : ByteArray, e = .returned (.string x) ∧ (x.size : Int) ≤ 24 ∧ Only p w w' ∧ Cur B p w' := by
  subst hn
  have hlt := hC.lt
  refine (pick_str B p w.heap.size cap xs _ (hC.alloc _) (by omega) (by simp) h0 h1 (alloc_strs w xs t)).mono ?_
  rintro e w' ⟨x, hx, rfl, ho, hC'⟩
  exact ⟨x, rfl, by have := hs x hx; omega, ((Only.refl p w).alloc _).trans ho, hC'⟩

theorem pick_strsD (B p n cap m : Nat) (xs : List ByteArray) (t : TypeId) (w : World) (hC : Cur B p w) (hn : xs.length = n) (h0 : 0 < n) (h1 : n ≤ 256) (hs : ∀ s ∈ xs, s.size ≤ 24) :
    Calls Tryz.prog 79 #[.pointer (some ⟨p, 0, none⟩), .slice (some ⟨w.heap.size, 0, none⟩) n cap] ((w.alloc (.cells (xs.map Value.string).toArray t)).drewN m) fun e w' => ∃ x : ByteArray, e = .returned (.string x) ∧ (x.size : Int) ≤ 24 ∧ Only p w w' ∧ Cur B p w' := by
  subst hn
  have hlt := hC.lt
  refine (pick_str B p w.heap.size cap xs _ ((hC.alloc _).drewN m) (by omega) (by show w.heap.size < (w.alloc _).heap.size; simp) h0 h1 (fun k hk => alloc_strs w xs t k hk)).mono ?_
  rintro e w' ⟨x, hx, rfl, ho, hC'⟩
  exact ⟨x, rfl, by have := hs x hx; omega, (((Only.refl p w).alloc _).drewN m).trans ho, hC'⟩
def LS4 : List ByteArray := [⟨#[]⟩, ⟨#[32, 32]⟩, ⟨#[45]⟩, ⟨#[43]⟩]
theorem LS4_in : ∀ s ∈ LS4, s.size ≤ 24 := by decide +kernel
theorem pick_LS4 (B p cap : Nat) (t : TypeId) (w : World) (hC : Cur B p w) :
    Calls Tryz.prog 79 #[.pointer (some ⟨p, 0, none⟩), .slice (some ⟨w.heap.size, 0, none⟩) 4 cap] (w.alloc (.cells #[.string ⟨#[]⟩, .string ⟨#[32, 32]⟩, .string ⟨#[45]⟩, .string ⟨#[43]⟩] t)) fun e w' => ∃ x : ByteArray, e = .returned (.string x) ∧ (x.size : Int) ≤ 24 ∧ Only p w w' ∧ Cur B p w' :=
  pick_strs B p 4 cap LS4 t w hC rfl (by decide) (by decide) LS4_in
def LS6 : List ByteArray := [⟨#[]⟩, ⟨#[32]⟩, ⟨#[120]⟩, ⟨#[46]⟩, ⟨#[48]⟩, ⟨#[46, 53]⟩]
theorem LS6_in : ∀ s ∈ LS6, s.size ≤ 24 := by decide +kernel
theorem pick_LS6 (B p cap : Nat) (t : TypeId) (w : World) (hC : Cur B p w) :
    Calls Tryz.prog 79 #[.pointer (some ⟨p, 0, none⟩), .slice (some ⟨w.heap.size, 0, none⟩) 6 cap] (w.alloc (.cells #[.string ⟨#[]⟩, .string ⟨#[32]⟩, .string ⟨#[120]⟩, .string ⟨#[46]⟩, .string ⟨#[48]⟩, .string ⟨#[46, 53]⟩] t)) fun e w' => ∃ x : ByteArray, e = .returned (.string x) ∧ (x.size : Int) ≤ 24 ∧ Only p w w' ∧ Cur B p w' :=
  pick_strs B p 6 cap LS6 t w hC rfl (by decide) (by decide) LS6_in
def LS6b : List ByteArray := [⟨#[48]⟩, ⟨#[45]⟩, ⟨#[32]⟩, ⟨#[46]⟩, ⟨#[57]⟩, ⟨#[48, 48]⟩]
theorem LS6b_in : ∀ s ∈ LS6b, s.size ≤ 24 := by decide +kernel
theorem pick_LS6b (B p cap : Nat) (t : TypeId) (w : World) (hC : Cur B p w) :
    Calls Tryz.prog 79 #[.pointer (some ⟨p, 0, none⟩), .slice (some ⟨w.heap.size, 0, none⟩) 6 cap] (w.alloc (.cells #[.string ⟨#[48]⟩, .string ⟨#[45]⟩, .string ⟨#[32]⟩, .string ⟨#[46]⟩, .string ⟨#[57]⟩, .string ⟨#[48, 48]⟩] t)) fun e w' => ∃ x : ByteArray, e = .returned (.string x) ∧ (x.size : Int) ≤ 24 ∧ Only p w w' ∧ Cur B p w' :=
  pick_strs B p 6 cap LS6b t w hC rfl (by decide) (by decide) LS6b_in
def LS9 : List ByteArray := [⟨#[]⟩, ⟨#[97, 98, 99]⟩, ⟨#[57, 48, 48, 48, 48, 48, 48]⟩, ⟨#[57, 48, 48, 48, 48, 48, 48, 46, 48, 48, 48, 48, 48, 49]⟩, ⟨#[57, 57, 57, 57, 57, 57, 57, 57, 57, 57, 57, 57, 57, 57, 57, 57, 57, 57, 57, 57, 57, 57, 57]⟩, ⟨#[48, 46, 48, 48, 48, 48, 48, 48, 49]⟩, ⟨#[46, 53]⟩, ⟨#[49, 46]⟩, ⟨#[45, 32, 49]⟩]
theorem LS9_in : ∀ s ∈ LS9, s.size ≤ 24 := by decide +kernel
theorem pick_LS9 (B p cap : Nat) (t : TypeId) (w : World) (hC : Cur B p w) :
    Calls Tryz.prog 79 #[.pointer (some ⟨p, 0, none⟩), .slice (some ⟨w.heap.size, 0, none⟩) 9 cap] (w.alloc (.cells #[.string ⟨#[]⟩, .string ⟨#[97, 98, 99]⟩, .string ⟨#[57, 48, 48, 48, 48, 48, 48]⟩, .string ⟨#[57, 48, 48, 48, 48, 48, 48, 46, 48, 48, 48, 48, 48, 49]⟩, .string ⟨#[57, 57, 57, 57, 57, 57, 57, 57, 57, 57, 57, 57, 57, 57, 57, 57, 57, 57, 57, 57, 57, 57, 57]⟩, .string ⟨#[48, 46, 48, 48, 48, 48, 48, 48, 49]⟩, .string ⟨#[46, 53]⟩, .string ⟨#[49, 46]⟩, .string ⟨#[45, 32, 49]⟩] t)) fun e w' => ∃ x : ByteArray, e = .returned (.string x) ∧ (x.size : Int) ≤ 24 ∧ Only p w w' ∧ Cur B p w' :=
  pick_strs B p 9 cap LS9 t w hC rfl (by decide) (by decide) LS9_in
theorem pick_LS6b1 (B p cap : Nat) (t : TypeId) (w : World) (hC : Cur B p w) :
    Calls Tryz.prog 79 #[.pointer (some ⟨p, 0, none⟩), .slice (some ⟨w.heap.size, 0, none⟩) 6 cap] (w.alloc (.cells #[.string ⟨#[48]⟩, .string ⟨#[45]⟩, .string ⟨#[32]⟩, .string ⟨#[46]⟩, .string ⟨#[57]⟩, .string ⟨#[48, 48]⟩] t)).drew fun e w' => ∃ x : ByteArray, e = .returned (.string x) ∧ (x.size : Int) ≤ 24 ∧ Only p w w' ∧ Cur B p w' :=
  pick_strsD B p 6 cap 1 LS6b t w hC rfl (by decide) (by decide) LS6b_in
theorem pick_LS6b2 (B p cap : Nat) (t : TypeId) (w : World) (hC : Cur B p w) :
    Calls Tryz.prog 79 #[.pointer (some ⟨p, 0, none⟩), .slice (some ⟨w.heap.size, 0, none⟩) 6 cap] (w.alloc (.cells #[.string ⟨#[48]⟩, .string ⟨#[45]⟩, .string ⟨#[32]⟩, .string ⟨#[46]⟩, .string ⟨#[57]⟩, .string ⟨#[48, 48]⟩] t)).drew.drew fun e w' => ∃ x : ByteArray, e = .returned (.string x) ∧ (x.size : Int) ≤ 24 ∧ Only p w w' ∧ Cur B p w' :=
  pick_strsD B p 6 cap 2 LS6b t w hC rfl (by decide) (by decide) LS6b_in
theorem text_len (x : Int) : ((Num.decTextL x).length : Int) ≤ 40 := by
  unfold Num.decTextL
  cases h : Dec.okB x with
  | false => simp
  | true =>
    rw [if_pos rfl, Num.textL_is]
    obtain ⟨h1, h2⟩ := Dec.of_okB h
    have ha := Dec.absI_nonneg x
    have hb := Dec.absI_le h1 h2
    have hq := Lib.nDigits_le20 (Dec.absI x / 1000000).toNat (by omega)
    rw [← Lib.decDigits_length] at hq
    obtain ⟨_, hr, _⟩ := Num.rest_is (r := (Dec.absI x % 1000000).toNat) (by omega)
    have ht : (Num.restTail (Dec.absI x % 1000000).toNat).length ≤ 7 := by
      unfold Num.restTail; split
      · simp
      · simp; omega
    have hp : (if x < 0 then [45] else [] : List UInt8).length ≤ 1 := by split <;> simp
    simp only [List.length_append]; omega
/-- DecText of a drawn number: some text, not long -/
theorem sText_some (B p : Nat) (x : Int) (w : World) (hC : Cur B p w) :
    Calls Tryz.prog 17 #[.int .i64 x] w fun e w' => ∃ s : ByteArray, e = .returned (.string s) ∧ (s.size : Int) ≤ 40 ∧ Only p w w' ∧ Cur B p w' := by
  refine (sDecText x w).mono ?_
  rintro e w' ⟨rfl, hb⟩
  exact ⟨_, rfl, by rw [Lib.size_mk]; exact text_len x, Only.of_below hb, hC.grown hb⟩

set_option maxRecDepth 100000 in
theorem drawText (B p : Nat) (w : World) (hC : Cur B p w) :
    Calls Tryz.prog 65 #[.pointer (some ⟨p, 0, none⟩)] w fun e w' => ∃ s : ByteArray, e = .returned (.string s) ∧ (s.size : Int) ≤ 200 ∧ Only p w w' ∧ Cur B p w' := by
  go_enter Tryz.func65, Tryz.ntmps65
  go_upto_region 1 with fail
  go_cut [3] (fun v wx => ∃ s : ByteArray, v = .string s ∧ (s.size : Int) ≤ 100 ∧ Only p w wx ∧ Cur B p wx)
  case first =>
    go_wp2_with (first | (go_at_call 79; with_reducible refine (pick_LS4 B p _ _ _ ?_).mono ?_; assumption; rintro e w1 ⟨s1, rfl, hs1, ho1, hC1⟩) | (go_at_call 101; refine (drawDec B p _ ?_).mono ?_; assumption; rintro e w2 ⟨x, rfl, hx, ho2, hC2⟩) | (go_at_call 17; refine (sText_some B p _ _ ?_).mono ?_; assumption; rintro e w3 ⟨s2, rfl, hs2, ho3, hC3⟩) | (go_at_call 79; with_reducible refine (pick_LS6 B p _ _ _ ?_).mono ?_; assumption; rintro e w4 ⟨s3, rfl, hs3, ho4, hC4⟩))
    go_meet
    exact ⟨_, rfl, by rw [ByteArray.size_append, ByteArray.size_append]; omega, ((ho1.trans ho2).trans ho3).trans ho4, hC4⟩
  case rest =>
    obtain ⟨s, rfl, hs, ho, hC'⟩ := hcut
    clear hC
    go_upto_region 4 with (first | (go_at_call 45; with_reducible refine (below_small B p ((s.size : Int) + 1) _ ?_ ?_ ?_).mono ?_; assumption; omega; omega; rintro e w1 ⟨x, rfl, hx0, hx1, ho1, hC1⟩) | (go_at_call 45; with_reducible refine (below_small B p 7 _ ?_ ?_ ?_).mono ?_; assumption; omega; omega; rintro e w2 ⟨y, rfl, hy0, hy1, ho2, hC2⟩))
    have hO := (ho.trans ho1).trans ho2
    clear ho ho1 ho2 hC1 hC'
    obtain ⟨k, rfl⟩ : ∃ k : Nat, x = k := ⟨x.toNat, by omega⟩
    have hk : k ≤ s.size := by omega
    by_cases hy : y = 0
    · subst hy
      go_wp2_with fail
      go_region_with (go_at_call 79; first | (with_reducible refine (pick_LS6b1 B p _ _ _ ?_).mono ?_; assumption; rintro e w3 ⟨s3, rfl, hs3, ho3, hC3⟩) | (with_reducible refine (pick_LS6b2 B p _ _ _ ?_).mono ?_; assumption; rintro e w3 ⟨s3, rfl, hs3, ho3, hC3⟩) | (with_reducible refine (pick_LS6b B p _ _ _ ?_).mono ?_; assumption; rintro e w3 ⟨s3, rfl, hs3, ho3, hC3⟩))
      all_goals
        go_wp2_with fail
        have hsz : (((s.extract 0 k ++ s3 ++ s.extract k s.size).size : Nat) : Int) ≤ 200 := by
          rw [ByteArray.size_append, ByteArray.size_append, ByteArray.size_extract, ByteArray.size_extract]; omega
        refine bodyPost_ret (v := .string (s.extract 0 k ++ s3 ++ s.extract k s.size)) (by simp [results, Tryz.results65, go_sem]) rfl ?_
        first | exact ⟨_, rfl, hsz, hO.trans ho3, hC3⟩ | exact ⟨_, rfl, hsz, (hO.trans ho3).drewN 1, hC3.drewN 1⟩ | exact ⟨_, rfl, hsz, (hO.trans ho3).drewN 2, hC3.drewN 2⟩
    · by_cases hy1' : y = 1
      · subst hy1'
        go_wp2_with fail
        go_ret
        exact ⟨_, rfl, by rw [ByteArray.size_extract]; omega, hO, hC2⟩
      · have hyb : (y == 0) = false := by simp [hy]
        have hyb1 : (y == 1) = false := by simp [hy1']
        by_cases hy2 : y = 2
        · subst hy2
          go_wp2_with (go_at_call 79; with_reducible refine (pick_LS9 B p _ _ _ ?_).mono ?_; assumption; rintro e w3 ⟨s3, rfl, hs3, ho3, hC3⟩)
          go_ret
          exact ⟨_, rfl, by omega, hO.trans ho3, hC3⟩
        · have hyb2 : (y == 2) = false := by simp [hy2]
          go_wp2_with fail
          go_ret
          exact ⟨_, rfl, by omega, hO, hC2⟩

theorem DrawDecText (sa : Option Addr) (len cap B : Nat) (w : World) (hB : B ≤ w.heap.size) (hl : len ≤ 1048576) (hy : Bytes B w sa len) :
    Calls Tryz.prog 14 #[.slice sa len cap] w fun e w' => ∃ x, e = .returned (.int .i64 x) ∧ I64 x ∧ Below B w w' := by
  have hn := new_any sa len cap B w hB hl hy
  clear hy
  go_enter Tryz.func14, Tryz.ntmps14
  go_wp2_with (first | (go_at_call 42; refine hn.mono ?_; rintro e w1 ⟨rfl, hb, hC⟩) | (go_at_call 57; refine (drawFar B w.heap.size _ ?_).mono ?_; assumption; rintro e w' ⟨x, rfl, hx, ho, hC⟩))
  go_ret
  exact ⟨_, rfl, by assumption, (hb.mono hB).trans (Only.below (by assumption) hB (Nat.le_trans hB hb.size))⟩
theorem DrawDecFront (sa : Option Addr) (len cap B : Nat) (w : World) (hB : B ≤ w.heap.size) (hl : len ≤ 1048576) (hy : Bytes B w sa len) :
    Calls Tryz.prog 21 #[.slice sa len cap] w fun e w' => ∃ s : ByteArray, e = .returned (.string s) ∧ (s.size : Int) ≤ 200 ∧ Below B w w' := by
  have hn := new_any sa len cap B w hB hl hy
  clear hy
  go_enter Tryz.func21, Tryz.ntmps21
  go_wp2_with (first | (go_at_call 42; refine hn.mono ?_; rintro e w1 ⟨rfl, hb, hC⟩) | (go_at_call 65; refine (drawText B w.heap.size _ ?_).mono ?_; assumption; rintro e w' ⟨x, rfl, hx, ho, hC⟩))
  go_ret
  exact ⟨_, rfl, by assumption, (hb.mono hB).trans (Only.below (by assumption) hB (Nat.le_trans hB hb.size))⟩
theorem DrawDecLooks (sa : Option Addr) (len cap B : Nat) (w : World) (hB : B ≤ w.heap.size) (hl : len ≤ 1048576) (hy : Bytes B w sa len) :
    Calls Tryz.prog 19 #[.slice sa len cap] w fun e w' => ∃ s : ByteArray, e = .returned (.string s) ∧ (s.size : Int) ≤ 200 ∧ Below B w w' := by
  have hn := new_any sa len cap B w hB hl hy
  clear hy
  go_enter Tryz.func19, Tryz.ntmps19
  go_wp2_with (first | (go_at_call 42; refine hn.mono ?_; rintro e w1 ⟨rfl, hb, hC⟩) | (go_at_call 65; refine (drawText B w.heap.size _ ?_).mono ?_; assumption; rintro e w' ⟨x, rfl, hx, ho, hC⟩))
  go_ret
  exact ⟨_, rfl, by assumption, (hb.mono hB).trans (Only.below (by assumption) hB (Nat.le_trans hB hb.size))⟩
end Go.Proofs.YtdkeinnljbfopadGreatDoor
