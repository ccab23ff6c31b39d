/-
  The program's finders: what was not seen.
  The program's finders, as they lie in the heap.
  The program's finders of patterns without kids.
-/
import Derived.Test.YtgdnlmaacnnfiaaGreatDoorQ26
namespace Go.Proofs.YtgdnlmaacnnfiaaGreatDoor
open Go.RowKit Go.Maps
namespace Mt
open Rx Clo

theorem keyedInt : Keyed Tryz.prog 3 := int_keyed Tryz.underlying3
theorem zeroUnit (w : World) : (zeroValue 89).run Tryz.prog w = .ok (.agg #[]) w := by kernel_rfl

/-- The set of the numbers that were seen. -/
def seenD (Sl : List Nat) : DataW Unit := Maps.setOf (.agg []) (Sl.map fun (x : Nat) => Lit.int .i64 (x : Int))
theorem seenD_snoc (Sl : List Nat) (x : Nat) : seenD (Sl ++ [x]) = (seenD Sl).put (.int .i64 (x : Int)) (.agg []) := by
  unfold seenD
  rw [List.map_append, List.map_singleton, Maps.setOf_snoc]
theorem any_key (x : Nat) : ∀ l : List Nat, (l.map fun (x : Nat) => Lit.int .i64 (x : Int)).any (fun y : Lit => y.sameKey (.int .i64 (x : Int))) = l.contains x
  | [] => rfl
  | a :: r => by
    rw [List.map_cons, List.any_cons, List.contains_cons, any_key x r]
    congr 1
    show decide (IntKind.i64 = IntKind.i64 ∧ (a : Int) = x) = (x == a)
    by_cases e : a = x
    · subst e; simp
    · have e' : ¬ x = a := fun h => e h.symm
      have e'' : ¬ (a : Int) = x := by omega
      simp [e', e'']
theorem has_seen (Sl : List Nat) (x : Nat) : Maps.has (seenD Sl) (.int .i64 (x : Int)) = Sl.contains x := by
  unfold seenD
  rw [Maps.has_setOf _ _ _ (fun y hy => by obtain ⟨_, _, rfl⟩ := List.mem_map.1 hy; trivial)]
  exact any_key x Sl

/-- The map of what was seen. -/
def Seen (w : World) (m : Nat) (Sl : List Nat) : Prop := w.ownsMap Tryz.prog 3 unitElem m Sl.length (seenD Sl)
theorem Seen.isMap {w : World} {m : Nat} {Sl : List Nat} (h : Seen w m Sl) : ∃ es c, w.heap[m]? = some (.map es c) := by
  obtain ⟨es, c, h1, _⟩ := h
  exact ⟨es, c, h1⟩
theorem Seen.same {w w' : World} {m : Nat} {Sl : List Nat} (h : Seen w m Sl) (hw : w'.heap[m]? = w.heap[m]?) : Seen w' m Sl := by
  obtain ⟨es, c, h1, h2⟩ := h
  exact ⟨es, c, hw.trans h1, h2⟩
theorem Seen.lt {w : World} {m : Nat} {Sl : List Nat} (h : Seen w m Sl) : m < w.heap.size := by
  obtain ⟨es, c, h1, _⟩ := h
  exact heap_lt h1

/-- What is not there yet. -/
def fresh (Sl L : List Nat) : List Nat := L.filter fun x => !Sl.contains x
theorem fresh_take {Sl L : List Nat} {k x : Nat} (h : L[k]? = some x) : fresh Sl (L.take (k + 1)) = fresh Sl (L.take k) ++ if Sl.contains x = true then [] else [x] := by
  unfold fresh
  rw [List.take_add_one, h, List.filter_append]
  congr 1
  cases hb : Sl.contains x
  · simp only [Option.toList_some, List.filter_cons, hb]; simp
  · simp only [Option.toList_some, List.filter_cons, hb]; simp
theorem fresh_len (Sl L : List Nat) : (fresh Sl L).length ≤ L.length := List.length_filter_le _ _
theorem fresh_mem {Sl L : List Nat} {x : Nat} : x ∈ fresh Sl L ↔ x ∈ L ∧ x ∉ Sl := by
  unfold fresh
  rw [List.mem_filter]
  simp
theorem fresh_up {n : Nat} {Sl L : List Nat} (h : Up n L) : Up n (fresh Sl L) := ⟨h.1.filter _, fun x hx => h.2 x (fresh_mem.1 hx).1⟩
theorem up_not {n : Nat} {L : List Nat} (h : Up n L) {k x : Nat} (hx : L[k]? = some x) : x ∉ L.take k := by
  intro hm
  obtain ⟨j, hj, e⟩ := List.getElem_of_mem hm
  rw [List.length_take] at hj
  have hk := (List.getElem?_eq_some_iff.1 hx).1
  have h1 := List.pairwise_iff_getElem.1 h.1 j k (by omega) hk (by omega)
  rw [List.getElem_take] at e
  have h2 : L[k] = x := (List.getElem?_eq_some_iff.1 hx).2
  omega

theorem key_of (x : Nat) (hx : x ≤ 1000) : keyOf Tryz.prog 3 (.int .i64 (x : Int)) = some (.int .i64 (x : Int)) := keyOf_int_mk Tryz.underlying3 (by
  have h1 : IntKind.i64.min = -9223372036854775808 := by rfl
  have h2 : IntKind.i64.max = 9223372036854775807 := by rfl
  simp only [Lit.wf, Bool.and_eq_true, decide_eq_true_eq, h1, h2]
  omega)

set_option maxHeartbeats 2000000 in
set_option maxRecDepth 100000 in
theorem iUnseen {n m : Nat} {Sl L : List Nat} {fv : Value} {w : World} (hn : n ≤ 1000) (hm : Seen w m Sl) (hSl : Sl.length ≤ 1000000) (hrd : Rd w fv L) (hup : Up n L) :
    Calls Tryz.prog 76 #[.map (some m), fv] w fun e w' => ∃ rv, e = .returned rv ∧ w'.ownsRow w.heap.size 3 1 rv (fresh Sl L).length (ints (natI (fresh Sl L))) ∧ Seen w' m (Sl ++ fresh Sl L) ∧ Fr (fun k => k = m) w w' := by
  obtain ⟨ao, cap, rfl, hcap, hcell⟩ := rd_form hrd
  obtain ⟨i0, hi0, hz0, hz1, hz2⟩ := info_parts Tryz.infoIntr
  have hlen := hup.len
  have hml := hm.lt
  have bl : (L.length : Int) ≤ 1001 := by omega
  have hnm : ∀ g j v, w.cell? ⟨g, j, none⟩ = some v → g ≠ m := fun g j v hc e => by
    obtain ⟨es, c, he⟩ := hm.isMap
    subst e
    simp [World.cell?, he] at hc
  go_enter Tryz.func76, Tryz.ntmps76
  go_wp2_with fail
  go_loopw [5, 12] (fun v i wr => ∃ k : Nat, k ≤ L.length ∧ i = .int .i64 k ∧ wr.ownsRow w.heap.size 3 1 v (fresh Sl (L.take k)).length (ints (natI (fresh Sl (L.take k)))) ∧ Seen wr m (Sl ++ fresh Sl (L.take k)) ∧ Fr (fun k => k = m) w wr) (fun _ i _ => L.length - (intOf i).toNat)
  case atStart => exact ⟨0, by omega, rfl, World.ownsRow_nil _ _ _ _, by simpa [fresh] using hm, Fr.refl _ _⟩
  case round =>
    obtain ⟨k, hk, rfl, hown, hS, hF⟩ := hrel
    have hsz := hF.size
    by_cases hkl : k < L.length
    · have hx : L[k]? = some L[k] := List.getElem?_eq_getElem hkl
      obtain ⟨x, hxe⟩ : ∃ x, x = L[k] := ⟨_, rfl⟩
      have hxn : x ≤ n := hup.2 x (by rw [hxe]; exact List.getElem_mem _)
      rw [← hxe] at hx
      clear hxe
      obtain ⟨gx, rfl, hc⟩ := hcell k x hx
      have hc' : wr.cell? ⟨gx, k, none⟩ = some (.int .i64 x) := hF.cell hc (hnm gx k _ hc)
      have bk : (k : Int) < L.length := by omega
      have hfl := fresh_len Sl (L.take k)
      rw [List.length_take] at hfl
      have hkey := key_of x (by omega)
      have hcon : (Sl ++ fresh Sl (L.take k)).contains x = Sl.contains x := by
        have h1 : x ∉ fresh Sl (L.take k) := fun h => up_not hup hx (fresh_mem.1 h).1
        cases h2 : Sl.contains x
        · simp at h2 ⊢; exact ⟨h2, h1⟩
        · simp at h2 ⊢; exact .inl h2
      have hhas : Maps.has (seenD (Sl ++ fresh Sl (L.take k))) (.int .i64 (x : Int)) = Sl.contains x := by rw [has_seen, hcon]
      unfold Seen at hS
      have hSlen : (Sl ++ fresh Sl (L.take k)).length ≤ 1001001 := by rw [List.length_append]; omega
      rcases hb : Sl.contains x with _ | _
      · rw [hb] at hhas
        have hft : fresh Sl (L.take (k + 1)) = fresh Sl (L.take k) ++ [x] := by rw [fresh_take hx, hb]; simp
        go_wp2_with (first
          | (at_lookup; refine wpList_lookup_own_unit _ rfl _ _ 134 rfl 3 89 keyedInt Tryz.underlying134 (zeroUnit _) m _ _ rfl hS _ _ rfl hkey ?_; rw [hhas])
          | (at_mapUpdate; refine wpList_mapUpdate_own _ rfl _ _ _ 134 rfl 3 89 keyedInt Tryz.underlying134 (unitElem (H := Unit)) m _ _ rfl (hS.alloc _) (by unfold maxLen; omega) _ _ _ rfl rfl hkey _ [] unitElem_mk ?_; intro w1 hown1 hgrow1; have hr1 := (hown.alloc (.cells #[] 89)).kept hgrow1 (Or.inr (fun e => by have := (hown.lt m e).1; omega)); have hzz := hgrow1.size)
          | (at_builtin; refine wpList_append_own_at _ rfl _ _ 29 rfl w.heap.size 3 i0 (.int .i64 0) 1 8 Tryz.underlying29 hi0 hz0 hz1 hz2 rfl (by decide) _ _ _ rfl (hr1.alloc _) ⟨w1.heap.size, 0, none⟩ 1 1 (ints [(x : Int)]) rfl rfl (cell_one_new _ _ _) (ints_cell1 _) (by unfold maxLen; omega) (by omega) (by simp at hzz ⊢; omega) ?_; intro v' w2 hown' hgrow2 _ hb2))
        go_roundw
        case rel =>
          have hzz2 := hgrow2.size
          rw [World.size_alloc] at hzz hzz2
          refine ⟨k + 1, by omega, by go_num, ?_, ?_, ?_⟩
          · rw [hft, natI_snoc, ints_append, List.length_append, List.length_singleton]
            exact hown'
          · rw [hft, ← List.append_assoc]
            have h1 : Seen w1 m (Sl ++ fresh Sl (L.take k) ++ [x]) := by
              unfold Seen
              rw [seenD_snoc, List.length_append (bs := [x]), List.length_singleton]
              exact hown1
            refine h1.same ((hgrow2.block m (by rw [World.size_alloc]; have := h1.lt; omega) (fun e => ?_)).trans (Below.heap_alloc _ _ _ h1.lt))
            have := (hr1.lt m e.symm).1
            omega
          · have hF1 : Fr (fun k => k = m) w w1 := ⟨hgrow1.os.trans hF.os, hgrow1.tape.trans hF.tape, hgrow1.output.trans hF.output, by omega, fun j hj hjm => (hgrow1.block j (by rw [World.size_alloc]; omega) (fun e => hjm (by simpa using e))).trans ((Below.heap_alloc _ _ _ (by omega)).trans (hF.block j hj hjm))⟩
            exact (hF1.alloc _).grown hgrow2 (fun b hb => (hr1.lt b hb).1)
        case measure => simp [intOf]; omega
      · rw [hb] at hhas
        have hft : fresh Sl (L.take (k + 1)) = fresh Sl (L.take k) := by rw [fresh_take hx, hb]; simp
        go_wp2_with (first
          | (at_lookup; refine wpList_lookup_own_unit _ rfl _ _ 134 rfl 3 89 keyedInt Tryz.underlying134 (zeroUnit _) m _ _ rfl hS _ _ rfl hkey ?_; rw [hhas]))
        go_roundw
        case rel => exact ⟨k + 1, by omega, by go_num, by rw [hft]; exact hown.alloc _, by rw [hft]; exact Seen.same hS (Below.heap_alloc _ _ _ (Seen.lt hS)), hF.alloc _⟩
        case measure => simp [intOf]; omega
    · obtain rfl : k = L.length := by omega
      rw [List.take_length] at hown hS
      go_wp2_with fail
      go_ret
      exact ⟨_, rfl, hown, hS, hF⟩

end Mt
end Go.Proofs.YtgdnlmaacnnfiaaGreatDoor

namespace Go.Proofs.YtgdnlmaacnnfiaaGreatDoor
open Go.RowKit Go.Maps
namespace Mt
open Rx Clo

/-- Where pieces end that begin at Q. -/
def Img (s : ByteArray) (t : Data) (Q : Nat → Prop) (x : Nat) : Prop := ∃ q, Q q ∧ Fit (gOf s) s.size t q x
def ImgC (s : ByteArray) (ks : List Data) (Q : Nat → Prop) (x : Nat) : Prop := ∃ q, Q q ∧ FitCat (gOf s) s.size ks q x

/-- A list of finders, at block b. -/
def Box (w : World) (b : Nat) (fs : List Value) : Prop := ∃ kv, w.heap[b]? = some (.cells #[kv] 96 (0, 0)) ∧ w.ownsRow 0 47 1 kv fs.length fs

/-- States of kids, each apart, all within S. -/
def Apart (Ss : Nat → Nat → Prop) (S : Nat → Prop) : Prop := (∀ i k, Ss i k → S k) ∧ ∀ i j k, Ss i k → Ss j k → i = j

/-- What goes on again and again: its map, and the kid. -/
def Rep (w : World) (v : Value) (m : Nat) (Sl : List Nat) (f : Value) : Prop :=
  ∃ bm bk, v = .func (.func 75) #[] #[.pointer (some ⟨bm, 0, none⟩), .pointer (some ⟨bk, 0, none⟩)] ∧ w.heap[bm]? = some (.cells #[.map (some m)] 134 (0, 0)) ∧ w.heap[bk]? = some (.cells #[f] 47 (0, 0)) ∧ Seen w m Sl

/-- The finder of a pattern, asked at Q so far; its maps are S. -/
def Fnd (s : ByteArray) : Nat → World → Data → Value → (Nat → Prop) → (Nat → Prop) → Prop
  | 0, _, _, _, _, _ => False
  | d + 1, w, t, v, S, Q =>
    (t = leaf 4 ∧ v = .func (.func 42) #[] #[]) ∨
    (t = leaf 5 ∧ ∃ b, v = .func (.func 44) #[] #[.pointer (some ⟨b, 0, none⟩)] ∧ w.heap[b]? = some (.cells #[.string s] 9 (0, 0))) ∨
    (t = leaf 11 ∧ v = .func (.func 50) #[] #[]) ∨
    (∃ op c ss no pv bp bs, (op = 1 ∨ op = 2 ∨ op = 3) ∧ t = nd op c ss no [] ∧ Leaf op c ss no pv ∧ v = .func (.func 51) #[] #[.pointer (some ⟨bp, 0, none⟩), .pointer (some ⟨bs, 0, none⟩)] ∧
      w.heap[bp]? = some (.cells #[pv] 50 (0, 0)) ∧ w.heap[bs]? = some (.cells #[.string s] 9 (0, 0))) ∨
    (∃ ks b fs Ss, t = nd 6 0 [] false ks ∧ v = .func (.func 71) #[] #[.pointer (some ⟨b, 0, none⟩)] ∧ Box w b fs ∧ fs.length = ks.length ∧ Apart Ss S ∧ ∀ (i : Nat) k f, ks[i]? = some k → fs[i]? = some f → Fnd s d w k f (Ss i) (ImgC s (ks.take i) Q)) ∨
    (∃ ks b fs Ss, (t = nd 7 0 [] false ks ∨ ∃ k, t = Rx.one 10 k ∧ ks = [leaf 11, k]) ∧ v = .func (.func 72) #[] #[.pointer (some ⟨b, 0, none⟩)] ∧ Box w b fs ∧ fs.length = ks.length ∧ Apart Ss S ∧ ∀ (i : Nat) k f, ks[i]? = some k → fs[i]? = some f → Fnd s d w k f (Ss i) Q) ∨
    (∃ k m Sl f S1, t = Rx.one 8 k ∧ Rep w v m Sl f ∧ (∀ x, x ∈ Sl ↔ Img s (Rx.one 8 k) Q x) ∧ Sl.Nodup ∧ (∀ x ∈ Sl, x ≤ s.size) ∧ S m ∧ (∀ x, S1 x → S x ∧ x ≠ m) ∧ Fnd s d w k f S1 (fun x => x ∈ Sl)) ∨
    (∃ k m Sl f S1 fr bmore bonce, t = Rx.one 9 k ∧ v = .func (.func 49) #[] #[.pointer (some ⟨bmore, 0, none⟩), .pointer (some ⟨bonce, 0, none⟩)] ∧ w.heap[bmore]? = some (.cells #[fr] 47 (0, 0)) ∧ w.heap[bonce]? = some (.cells #[f] 47 (0, 0)) ∧
      Rep w fr m Sl f ∧ (∀ x, x ∈ Sl ↔ Img s (Rx.one 9 k) Q x) ∧ Sl.Nodup ∧ (∀ x ∈ Sl, x ≤ s.size) ∧ S m ∧ (∀ x, S1 x → S x ∧ x ≠ m) ∧ Fnd s d w k f S1 (fun x => Q x ∨ x ∈ Sl))

/-- What holds cells, but for lists of numbers, is as it was. -/
def Cells (w w' : World) : Prop := ∀ (k : Nat) (cs : Array Value) (T : TypeId) (fr : Nat × Nat), T ≠ 3 → w.heap[k]? = some (Obj.cells cs T fr) → w'.heap[k]? = some (Obj.cells cs T fr)
theorem cells_fr {S : Nat → Prop} {w w' : World} (h : Fr S w w') (hm : Maps S w) : Cells w w' := fun k _ _ _ _ hk => (h.block k (heap_lt hk) (maps_cells hm hk)).trans hk
theorem cells_own {w w' : World} {B n : Nat} {v : Value} {xs : List Value} (h : w.ownsRow B 3 1 v n xs) (hg : w.grownBy w' v.ownBlock) : Cells w w' := fun k cs T fr hT hk => (hg.block k (heap_lt hk) (fun e => by
  obtain ⟨cs', hc⟩ := own_tag h e.symm
  rw [hk] at hc
  simp at hc
  exact hT hc.2.1)).trans hk
theorem Cells.trans {a b c : World} (h : Cells a b) (h' : Cells b c) : Cells a c := fun k cs T fr hT hk => h' k cs T fr hT (h k cs T fr hT hk)
theorem maps_own {S : Nat → Prop} {w w' : World} {B n : Nat} {v : Value} {xs : List Value} (hM : Maps S w) (h : w.ownsRow B 3 1 v n xs) (hg : w.grownBy w' v.ownBlock) : ∀ k, S k → w'.heap[k]? = w.heap[k]? := fun k hk => by
  obtain ⟨es, c, he⟩ := hM k hk
  exact hg.block k (heap_lt he) (fun e => by
    obtain ⟨cs', hc⟩ := own_tag h e.symm
    rw [he] at hc
    cases hc)

theorem box_kept {w w' : World} {b : Nat} {fs : List Value} (h : Box w b fs) (hw : Cells w w') : Box w' b fs := by
  obtain ⟨kv, h1, h2⟩ := h
  refine ⟨kv, hw _ _ _ _ (by decide) h1, Clo.owns_same h2 fun g hg => ?_⟩
  rcases h2.2 with ⟨rfl, _⟩ | ⟨g', cap, cur, rfl, _, hh, _⟩
  · simp [Value.ownBlock] at hg
  · simp [Value.ownBlock] at hg
    subst hg
    exact (hw _ _ _ _ (by decide) hh).trans hh.symm
theorem rep_kept {w w' : World} {v : Value} {m : Nat} {Sl : List Nat} {f : Value} (h : Rep w v m Sl f) (hw : Cells w w') (hm : w'.heap[m]? = w.heap[m]?) : Rep w' v m Sl f := by
  obtain ⟨bm, bk, h1, h2, h3, h4⟩ := h
  exact ⟨bm, bk, h1, hw _ _ _ _ (by decide) h2, hw _ _ _ _ (by decide) h3, h4.same hm⟩

theorem fnd_kept {s : ByteArray} {w w' : World} (hw : Cells w w') : ∀ (d : Nat) (t : Data) (v : Value) (S Q : Nat → Prop), (∀ k, S k → w'.heap[k]? = w.heap[k]?) → Fnd s d w t v S Q → Fnd s d w' t v S Q := by
  intro d
  induction d with
  | zero => intro t v S Q _ h; exact h.elim
  | succ d ih =>
    intro t v S Q hS h
    rw [Fnd] at h ⊢
    rcases h with h | ⟨ht, b, hv, h1⟩ | h | ⟨op, c, ss, no, pv, bp, bs, ho, ht, hL, hv, h1, h2⟩ | ⟨ks, b, fs, Ss, ht, hv, hB, hl, hA, hk⟩ | ⟨ks, b, fs, Ss, ht, hv, hB, hl, hA, hk⟩ | ⟨k, m, Sl, f, S1, ht, hR, h1, h2, h3, h4, h5, h6⟩ | ⟨k, m, Sl, f, S1, fr, bmore, bonce, ht, hv, e1, e2, hR, h1, h2, h3, h4, h5, h6⟩
    · exact .inl h
    · exact .inr (.inl ⟨ht, b, hv, hw _ _ _ _ (by decide) h1⟩)
    · exact .inr (.inr (.inl h))
    · exact .inr (.inr (.inr (.inl ⟨op, c, ss, no, pv, bp, bs, ho, ht, hL, hv, hw _ _ _ _ (by decide) h1, hw _ _ _ _ (by decide) h2⟩)))
    · exact .inr (.inr (.inr (.inr (.inl ⟨ks, b, fs, Ss, ht, hv, box_kept hB hw, hl, hA, fun i k f a1 a2 => ih k f _ _ (fun x hx => hS x (hA.1 i x hx)) (hk i k f a1 a2)⟩))))
    · exact .inr (.inr (.inr (.inr (.inr (.inl ⟨ks, b, fs, Ss, ht, hv, box_kept hB hw, hl, hA, fun i k f a1 a2 => ih k f _ _ (fun x hx => hS x (hA.1 i x hx)) (hk i k f a1 a2)⟩)))))
    · exact .inr (.inr (.inr (.inr (.inr (.inr (.inl ⟨k, m, Sl, f, S1, ht, rep_kept hR hw (hS m h4), h1, h2, h3, h4, h5, ih k f _ _ (fun x hx => hS x (h5 x hx).1) h6⟩))))))
    · exact .inr (.inr (.inr (.inr (.inr (.inr (.inr ⟨k, m, Sl, f, S1, fr, bmore, bonce, ht, hv, hw _ _ _ _ (by decide) e1, hw _ _ _ _ (by decide) e2, rep_kept hR hw (hS m h4), h1, h2, h3, h4, h5, ih k f _ _ (fun x hx => hS x (h5 x hx).1) h6⟩))))))

/-- How a finder answers when it is asked. -/
def FinderOk (s : ByteArray) (d : Nat) (k : Data) : Prop := ∀ (w : World) (v : Value) (S Q : Nat → Prop) (L : List Nat) (fv : Value), Fnd s d w k v S Q → Maps S w → Rd w fv L → Up s.size L →
  ∃ f cap, v = .func (.func f) #[] cap ∧ (∀ vs w, (callFunc f vs).run Tryz.prog w = .ok (.enter f vs) w) ∧
    Calls Tryz.prog f (#[fv] ++ cap) w fun e w' => ∃ rv R, e = .returned rv ∧ Rd w' rv R ∧ Up s.size R ∧ (L = [] → R = []) ∧ (∀ x, x ∈ R → Img s k (fun q => Q q ∨ q ∈ L) x) ∧ (∀ x, Img s k (fun q => Q q ∨ q ∈ L) x → x ∈ R ∨ Img s k Q x) ∧
      Fnd s d w' k v S (fun q => Q q ∨ q ∈ L) ∧ Maps S w' ∧ Fr S w w'

/-- A call of a function's value. -/
theorem wpList_call_fn {P : Program} {ops : Array Oper} {rest : List Oper} {o : Oper} {a : Act} {w : World} {Q : Exit → Act → World → Prop} (hg : o.guard = none) (x y : Nat) (t : TypeId) (hop : o.op = Op.call { callee := Callee.value (.tmp x), args := #[.tmp y], argTypes := #[t] })
    (f : Nat) (cap : Array Value) (hx : a.eval (.tmp x) = .func (.func f) #[] cap) (hcf : ∀ vs w, (callFunc f vs).run P w = .ok (.enter f vs) w) (fv : Value) (hy : a.eval (.tmp y) = fv)
    (hc : Calls P f (#[fv] ++ cap) w fun e w' => ∃ v, e = .returned v ∧ wpList P ops Q rest (a.put o.dst v) w') : wpList P ops Q (o :: rest) a w := by
  refine wpList_plain hg fun K hK => ?_
  unfold Oper.wp
  simp [Act.eval] at hx hy
  simp [execOp, hop, resolve, invoke, hcf, go_sem, hx, hy]
  refine hc.mono ?_
  rintro e w' ⟨v, rfl, hk⟩
  exact hK _ _ hk

end Mt
end Go.Proofs.YtgdnlmaacnnfiaaGreatDoor

namespace Go.Proofs.YtgdnlmaacnnfiaaGreatDoor
open Go.RowKit Go.Maps
namespace Mt
open Rx Clo

theorem enter_f1 (vs : Array Value) (w : World) : (callFunc 42 vs).run Tryz.prog w = .ok (.enter 42 vs) w := by kernel_rfl
theorem enter_f2 (vs : Array Value) (w : World) : (callFunc 44 vs).run Tryz.prog w = .ok (.enter 44 vs) w := by kernel_rfl
theorem enter_f3 (vs : Array Value) (w : World) : (callFunc 49 vs).run Tryz.prog w = .ok (.enter 49 vs) w := by kernel_rfl
theorem enter_f4 (vs : Array Value) (w : World) : (callFunc 50 vs).run Tryz.prog w = .ok (.enter 50 vs) w := by kernel_rfl
theorem enter_f5 (vs : Array Value) (w : World) : (callFunc 51 vs).run Tryz.prog w = .ok (.enter 51 vs) w := by kernel_rfl
theorem enter_turn (vs : Array Value) (w : World) : (callFunc 71 vs).run Tryz.prog w = .ok (.enter 71 vs) w := by kernel_rfl
theorem enter_tog (vs : Array Value) (w : World) : (callFunc 72 vs).run Tryz.prog w = .ok (.enter 72 vs) w := by kernel_rfl
theorem enter_rep (vs : Array Value) (w : World) : (callFunc 75 vs).run Tryz.prog w = .ok (.enter 75 vs) w := by kernel_rfl

/-- How a finder answers. -/
def Ans (s : ByteArray) (d : Nat) (k : Data) (v : Value) (S Q : Nat → Prop) (L : List Nat) (w : World) (e : Ending) (w' : World) : Prop :=
  ∃ rv R, e = .returned rv ∧ Rd w' rv R ∧ Up s.size R ∧ (L = [] → R = []) ∧ (∀ x, x ∈ R → Img s k (fun q => Q q ∨ q ∈ L) x) ∧ (∀ x, Img s k (fun q => Q q ∨ q ∈ L) x → x ∈ R ∨ Img s k Q x) ∧
      Fnd s d w' k v S (fun q => Q q ∨ q ∈ L) ∧ Maps S w' ∧ Fr S w w'

theorem maps_fr {S : Nat → Prop} {w w' : World} (h : Maps S w) (hb : Below w.heap.size w w') : Maps S w' := fun k hk => by
  obtain ⟨es, c, he⟩ := h k hk
  exact ⟨es, c, (hb.block k (heap_lt he)).trans he⟩

/-- A pattern without kids that tells R of L. -/
theorem ans_leaf {s : ByteArray} {d : Nat} {k : Data} {v : Value} {S Q : Nat → Prop} {L R : List Nat} {rv : Value} {w w' : World} (hrd : Rd w' rv R) (hup : Up s.size R) (hm : ∀ x, x ∈ R ↔ ∃ q, q ∈ L ∧ Fit (gOf s) s.size k q x) (hF : Fnd s d w' k v S (fun q => Q q ∨ q ∈ L)) (hM : Maps S w) (hb : Below w.heap.size w w') : Ans s d k v S Q L w (.returned rv) w' := by
  refine ⟨rv, R, rfl, hrd, hup, fun h => ?_, fun x hx => ?_, fun x hx => ?_, hF, maps_fr hM hb, fr_below hb⟩
  · subst h
    rcases R with _ | ⟨x, R⟩
    · rfl
    · obtain ⟨q, hq, _⟩ := (hm x).1 (by simp)
      simp at hq
  · obtain ⟨q, hq, hf⟩ := (hm x).1 hx
    exact ⟨q, .inr hq, hf⟩
  · obtain ⟨q, hq | hq, hf⟩ := hx
    · exact .inr ⟨q, hq, hf⟩
    · exact .inl ((hm x).2 ⟨q, hq, hf⟩)

theorem askStart {s : ByteArray} (hs : s.size ≤ 1000) {d : Nat} {v : Value} {S Q : Nat → Prop} {L : List Nat} {fv : Value} {w : World} (hv : v = .func (.func 42) #[] #[]) (hM : Maps S w) (hrd : Rd w fv L) (hup : Up s.size L) :
    Calls Tryz.prog 42 #[fv] w fun e w' => Ans s (d + 1) (leaf 4) v S Q L w e w' := by
  have call := iOnlyAt hrd hup hs (Nat.zero_le s.size)
  obtain ⟨ao, cap, rfl, -, -⟩ := rd_form hrd
  go_enter Tryz.func42, Tryz.ntmps42
  go_wp2_with fail
  refine call.mono ?_
  rintro e w1 ⟨rv, R, rfl, hR, hU, hm, hb⟩
  go_wp2_with fail
  go_ret
  refine ans_leaf hR hU (fun x => ?_) (by rw [Fnd]; exact .inl ⟨rfl, hv⟩) hM hb
  rw [hm x]
  simp only [fit_start]
  constructor
  · rintro ⟨h1, rfl⟩; exact ⟨0, h1, rfl, rfl⟩
  · rintro ⟨q, h1, rfl, rfl⟩; exact ⟨h1, rfl⟩

theorem askEnd {s : ByteArray} (hs : s.size ≤ 1000) {d b : Nat} {v : Value} {S Q : Nat → Prop} {L : List Nat} {fv : Value} {w : World} (hv : v = .func (.func 44) #[] #[.pointer (some ⟨b, 0, none⟩)]) (hbx : w.heap[b]? = some (.cells #[.string s] 9 (0, 0))) (hM : Maps S w) (hrd : Rd w fv L) (hup : Up s.size L) :
    Calls Tryz.prog 44 #[fv, .pointer (some ⟨b, 0, none⟩)] w fun e w' => Ans s (d + 1) (leaf 5) v S Q L w e w' := by
  have call := iOnlyAt hrd hup hs (Nat.le_refl s.size)
  obtain ⟨ao, cap, rfl, -, -⟩ := rd_form hrd
  have c0 : w.cell? ⟨b, 0, none⟩ = some (.string s) := by rw [cell_of_row _ _ _ _ _ _ hbx]; rfl
  go_enter Tryz.func44, Tryz.ntmps44
  go_wp2_with fail
  refine call.mono ?_
  rintro e w1 ⟨rv, R, rfl, hR, hU, hm, hb⟩
  go_wp2_with fail
  go_ret
  refine ans_leaf hR hU (fun x => ?_) (by rw [Fnd]; exact .inr (.inl ⟨rfl, b, hv, (hb.block b (heap_lt hbx)).trans hbx⟩)) hM hb
  rw [hm x]
  simp only [fit_end]
  constructor
  · rintro ⟨h1, rfl⟩; exact ⟨s.size, h1, rfl, rfl⟩
  · rintro ⟨q, h1, rfl, rfl⟩; exact ⟨h1, rfl⟩

theorem askNone {s : ByteArray} {d : Nat} {v : Value} {S Q : Nat → Prop} {L : List Nat} {fv : Value} {w : World} (hv : v = .func (.func 50) #[] #[]) (hM : Maps S w) (hrd : Rd w fv L) (hup : Up s.size L) :
    Calls Tryz.prog 50 #[fv] w fun e w' => Ans s (d + 1) (leaf 11) v S Q L w e w' := by
  have hrd' := hrd
  obtain ⟨ao, cap, rfl, -, -⟩ := rd_form hrd
  go_enter Tryz.func50, Tryz.ntmps50
  go_wp2_with fail
  go_ret
  refine ans_leaf hrd' hup (fun x => ?_) (by rw [Fnd]; exact .inr (.inr (.inl ⟨rfl, hv⟩))) hM (Below.refl _ _)
  simp only [fit_none]
  constructor
  · intro h; exact ⟨x, h, rfl⟩
  · rintro ⟨q, h, rfl⟩; exact h

theorem askByte {s : ByteArray} (hs : s.size ≤ 1000) {d bp bs op c : Nat} {ss : List UInt8} {no : Bool} {pv v : Value} {S Q : Nat → Prop} {L : List Nat} {fv : Value} {w : World} (ho : op = 1 ∨ op = 2 ∨ op = 3) (hL : Leaf op c ss no pv)
    (hv : v = .func (.func 51) #[] #[.pointer (some ⟨bp, 0, none⟩), .pointer (some ⟨bs, 0, none⟩)]) (hbp : w.heap[bp]? = some (.cells #[pv] 50 (0, 0))) (hbs : w.heap[bs]? = some (.cells #[.string s] 9 (0, 0))) (hM : Maps S w) (hrd : Rd w fv L) (hup : Up s.size L) :
    Calls Tryz.prog 51 #[fv, .pointer (some ⟨bp, 0, none⟩), .pointer (some ⟨bs, 0, none⟩)] w fun e w' => Ans s (d + 1) (nd op c ss no []) v S Q L w e w' := by
  have call := iBehindByte hL ho s hs hrd hup
  obtain ⟨ao, cap, rfl, -, -⟩ := rd_form hrd
  have c0 : w.cell? ⟨bs, 0, none⟩ = some (.string s) := by rw [cell_of_row _ _ _ _ _ _ hbs]; rfl
  have c1 : w.cell? ⟨bp, 0, none⟩ = some pv := by rw [cell_of_row _ _ _ _ _ _ hbp]; rfl
  obtain ⟨T, y, rfl⟩ : ∃ T y, pv = .iface T y := by
    rcases hL with h | h | h | h | h | h
    · exact ⟨_, _, h.2.2.2.2⟩
    · exact ⟨_, _, h.2.2.2.2⟩
    · exact ⟨_, _, h.2.2⟩
    · exact ⟨_, _, h.2.2.2.2⟩
    · exact ⟨_, _, h.2.2.2.2⟩
    · exact ⟨_, _, h.2.2.2.2⟩
  go_enter Tryz.func51, Tryz.ntmps51
  go_wp2_with fail
  refine call.mono ?_
  rintro e w1 ⟨rv, rfl, hR, hb⟩
  go_wp2_with fail
  go_ret
  refine ans_leaf hR (behind_up hup) (fun x => ?_) (by rw [Fnd]; exact .inr (.inr (.inr (.inl ⟨op, c, ss, no, _, bp, bs, ho, rfl, hL, hv, (hb.block bp (heap_lt hbp)).trans hbp, (hb.block bs (heap_lt hbs)).trans hbs⟩)))) hM hb
  rw [behind_mem]
  simp only [fit_tk ho]
  constructor
  · rintro ⟨i, h1, h2, h3, rfl⟩; exact ⟨i, h1, h2, rfl, h3⟩
  · rintro ⟨i, h1, h2, rfl, h3⟩; exact ⟨i, h1, h2, h3, rfl⟩

end Mt
end Go.Proofs.YtgdnlmaacnnfiaaGreatDoor

