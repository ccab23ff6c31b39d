/-
  Chapter 5's specification: l5Often.
-/
import Derived.Test.YtgdnlmaacnnfiaaGreatDoorQ14
import Derived.WalkSmall
namespace Go.Proofs.YtgdnlmaacnnfiaaGreatDoor
open Go.RowKit
namespace Mt
open Rx Clo

/-- The pile: what is to be gone on from, and what was; of k the ends below m alone are on it. -/
structure Pile (R : Nat → Nat → Prop) (at' : Nat) (L : List Nat) (V : Nat → Bool) (k m : Nat) : Prop where
  todo : ∀ x ∈ L, Star R at' x
  been : ∀ x, V x = true → Star R at' x
  start : V at' = true ∨ at' ∈ L
  on : ∀ x y, V x = true → R x y → (x = k → y < m) → V y = true ∨ y ∈ L

/-- All ends of all that was gone on from are on the pile, or were gone on from. -/
structure Piles (R : Nat → Nat → Prop) (at' : Nat) (L : List Nat) (V : Nat → Bool) : Prop where
  todo : ∀ x ∈ L, Star R at' x
  been : ∀ x, V x = true → Star R at' x
  start : V at' = true ∨ at' ∈ L
  on : ∀ x y, V x = true → R x y → V y = true ∨ y ∈ L

theorem piles_start (R : Nat → Nat → Prop) (at' : Nat) : Piles R at' [at'] (fun _ => false) :=
  ⟨fun x hx => by simp at hx; subst hx; exact star_refl R _, fun x hx => (nomatch hx), .inr (by simp), fun x y hx => (nomatch hx)⟩
theorem Piles.skip {R : Nat → Nat → Prop} {at' k : Nat} {L : List Nat} {V : Nat → Bool} (h : Piles R at' (L ++ [k]) V) (hV : V k = true) : Piles R at' L V := by
  refine ⟨fun x hx => h.todo x (by simp [hx]), h.been, ?_, fun x y hx hr => ?_⟩
  · rcases h.start with h | h
    · exact .inl h
    · rcases List.mem_append.1 h with h | h
      · exact .inr h
      · simp at h; subst h; exact .inl hV
  · rcases h.on x y hx hr with h | h
    · exact .inl h
    · rcases List.mem_append.1 h with h | h
      · exact .inr h
      · simp at h; subst h; exact .inl hV
theorem Piles.begin {R : Nat → Nat → Prop} {at' k : Nat} {L : List Nat} {V : Nat → Bool} (h : Piles R at' (L ++ [k]) V) : Pile R at' L (Clo.mark V k) k 0 := by
  have mk : ∀ y, V y = true ∨ y ∈ L ++ [k] → Clo.mark V k y = true ∨ y ∈ L := by
    intro y hy
    rcases hy with h | h
    · exact .inl (Clo.mark_old h)
    · rcases List.mem_append.1 h with h | h
      · exact .inr h
      · simp at h; subst h; exact .inl (Clo.mark_self _ _)
  refine ⟨fun x hx => h.todo x (by simp [hx]), fun x hx => ?_, mk at' h.start, fun x y hx hr hk => ?_⟩
  · rcases Clo.mark_or hx with h' | rfl
    · exact h.been x h'
    · exact h.todo x (by simp)
  · rcases Clo.mark_or hx with h' | rfl
    · exact mk y (h.on x y h' hr)
    · have := hk rfl; omega
theorem Pile.push {R : Nat → Nat → Prop} {at' k m : Nat} {L : List Nat} {V : Nat → Bool} (h : Pile R at' L V k m) (hk : V k = true) (hr : R k m) : Pile R at' (L ++ [m]) V k (m + 1) := by
  refine ⟨fun x hx => ?_, h.been, ?_, fun x y hx hr' hy => ?_⟩
  · rcases List.mem_append.1 hx with h' | h'
    · exact h.todo x h'
    · simp at h'; subst h'; exact star_step (h.been k hk) hr
  · rcases h.start with h' | h'
    · exact .inl h'
    · exact .inr (by simp [h'])
  · by_cases e : x = k ∧ y = m
    · exact .inr (by simp [e.2])
    · rcases h.on x y hx hr' (fun hx => by have := hy hx; have : y ≠ m := fun h => e ⟨hx, h⟩; omega) with h' | h'
      · exact .inl h'
      · exact .inr (by simp [h'])
theorem Pile.pass {R : Nat → Nat → Prop} {at' k m : Nat} {L : List Nat} {V : Nat → Bool} (h : Pile R at' L V k m) (hn : ¬ R k m ∨ V m = true) : Pile R at' L V k (m + 1) := by
  refine ⟨h.todo, h.been, h.start, fun x y hx hr' hy => ?_⟩
  by_cases e : x = k ∧ y = m
  · rcases hn with hn | hn
    · exact absurd (by rw [← e.1, ← e.2]; exact hr') hn
    · exact .inl (by rw [e.2]; exact hn)
  · exact h.on x y hx hr' (fun hx => by have := hy hx; have : y ≠ m := fun h => e ⟨hx, h⟩; omega)
theorem Pile.done {R : Nat → Nat → Prop} {at' k m : Nat} {L : List Nat} {V : Nat → Bool} (h : Pile R at' L V k m) (hm : ∀ y, R k y → y < m) : Piles R at' L V :=
  ⟨h.todo, h.been, h.start, fun x y hx hr => h.on x y hx hr fun e => hm y (e ▸ hr)⟩
theorem Piles.done {R : Nat → Nat → Prop} {at' : Nat} {V : Nat → Bool} (h : Piles R at' [] V) (x : Nat) : V x = true ↔ Star R at' x := by
  refine ⟨h.been x, fun hs => hs (fun x => V x = true) ?_ fun a b ha hr => ?_⟩
  · rcases h.start with h | h
    · exact h
    · simp at h
  · rcases h.on a b ha hr with h | h
    · exact h
    · simp at h

theorem star_last {R : Nat → Nat → Prop} {i j : Nat} : Star R i j ↔ j = i ∨ ∃ k, Star R i k ∧ R k j := by
  constructor
  · intro h
    refine h (fun j => j = i ∨ ∃ k, Star R i k ∧ R k j) (.inl rfl) ?_
    intro a b ha hr
    rcases ha with rfl | ⟨k, h1, h2⟩
    · exact .inr ⟨a, star_refl R _, hr⟩
    · exact .inr ⟨a, star_step h1 h2, hr⟩
  · rintro (rfl | ⟨k, h1, h2⟩)
    · exact star_refl R _
    · exact star_step h1 h2
theorem plus_last {R : Nat → Nat → Prop} {i j : Nat} : (∃ k, R i k ∧ Star R k j) ↔ ∃ k, Star R i k ∧ R k j := by
  constructor
  · rintro ⟨k, h1, h2⟩
    refine h2 (fun j => ∃ k, Star R i k ∧ R k j) ⟨i, star_refl R _, h1⟩ ?_
    rintro a b ⟨c, h3, h4⟩ hr
    exact ⟨a, star_step h3 h4, hr⟩
  · rintro ⟨k, h1, h2⟩
    rcases star_cases h1 with rfl | ⟨m, h3, h4⟩
    · exact ⟨j, h2, star_refl R _⟩
    · exact ⟨m, h3, star_step h4 h2⟩

/-- The flags that lie in a block. -/
def flagW (w : World) (q k : Nat) : Bool := match w.cell? ⟨q, k, none⟩ with
  | some (.bool b) => b
  | _ => false
theorem open_flagW {q n : Nat} {M : Nat → Bool} {w : World} (h : Bs q n M w) : open' (flagW w q) n = open' M n := by
  unfold open'
  congr 1
  apply List.filter_congr
  intro k hk
  rw [List.mem_range] at hk
  simp [flagW, bs_cell h hk]
def lenW : Value → Nat
  | .slice _ n _ => n
  | _ => 0

theorem ints_cell1 (l : List Int) : ∀ u ∈ ints l, u.oneCell' = true := by
  intro u hu
  simp only [ints, List.mem_map] at hu
  obtain ⟨x, _, rfl⟩ := hu
  simp [Value.oneCell']

def natI (l : List Nat) : List Int := l.map fun (x : Nat) => (x : Int)
theorem natI_len (l : List Nat) : (natI l).length = l.length := by simp [natI]
theorem natI_snoc (l : List Nat) (x : Nat) : natI (l ++ [x]) = natI l ++ [(x : Int)] := by simp [natI]

theorem Kp.grown {B e : Nat} {w w1 w2 : World} {row : Option Nat} (h : Kp B e w w1) (hg : w1.grownBy w2 row) (hr : ∀ b, row = some b → w.heap.size ≤ b) (he : e < w.heap.size) : Kp B e w w2 := by
  have := h.size
  have := hg.size
  refine ⟨hg.os.trans h.os, hg.tape.trans h.tape, hg.output.trans h.output, by omega, fun k hk hke hn => (hg.block k (by omega) fun e => by have := hr k e.symm; omega).trans (h.block k hk hke hn), fun m a l c hm => ?_⟩
  rw [← h.row m a l c hm]
  exact World.cell?_of_block (hg.block e (by omega) fun e' => by have := hr _ e'.symm; omega)
theorem row_tag {A : Nat → Prop} {B N : Nat} {g : Nat → Nat} {w w' : World} {t : Data} {b : Nat} (h : RowIs A B N g t w b) (hw : ∀ (k : Nat) (cs : Array Value) (T : TypeId) (fr : Nat × Nat), w.heap[k]? = some (Obj.cells cs T fr) → T = 4 ∨ T = 60 → w'.heap[k]? = w.heap[k]?) : RowIs A B N g t w' b := by
  obtain ⟨cs, h1, h2, h3⟩ := h
  refine ⟨cs, (hw b _ _ _ h1 (.inr rfl)).trans h1, h2, fun a ha => ?_⟩
  rcases h3 a ha with h | ⟨d, hd, hB, hAd, hs⟩
  · exact .inl h
  · exact .inr ⟨d, hd, hB, hAd, hs.kept (hw d _ _ _ hs (.inl rfl))⟩
theorem memo_tag {A : Nat → Prop} {B e np N : Nat} {g : Nat → Nat} {ts : Nat → Data} {w w' : World} (h : Memo A B e np N g ts w) (he : w'.heap[e]? = w.heap[e]?) (hw : ∀ (k : Nat) (cs : Array Value) (T : TypeId) (fr : Nat × Nat), w.heap[k]? = some (Obj.cells cs T fr) → T = 4 ∨ T = 60 → w'.heap[k]? = w.heap[k]?) : Memo A B e np N g ts w' := by
  obtain ⟨cs, h1, h2, h3⟩ := h.cells
  refine ⟨⟨cs, he.trans h1, h2, fun m hm => ?_⟩, ?_⟩
  · rcases h3 m hm with h | ⟨b, hb, hB, hA, hr⟩
    · exact .inl h
    · exact .inr ⟨b, hb, hB, hA, row_tag hr hw⟩
  · intro m m' b n c n' c' h4 h5
    rw [World.cell?_of_block (a := ⟨e, m, none⟩) he] at h4
    rw [World.cell?_of_block (a := ⟨e, m', none⟩) he] at h5
    exact h.inj m m' b n c n' c' h4 h5
theorem heap_lt {w : World} {k : Nat} {o : Obj} (h : w.heap[k]? = some o) : k < w.heap.size := by
  rcases Nat.lt_or_ge k w.heap.size with h' | h'
  · exact h'
  · rw [Array.getElem?_eq_none h'] at h; simp at h
theorem own_tag {w : World} {B n k : Nat} {v : Value} {xs : List Value} (h : w.ownsRow B 3 1 v n xs) (hv : v.ownBlock = some k) : ∃ cs, w.heap[k]? = some (.cells cs 3 (0, 0)) := by
  rcases h.2 with ⟨rfl, _⟩ | ⟨g, cap, cur, rfl, _, hh, _⟩
  · simp [Value.ownBlock] at hv
  · simp [Value.ownBlock] at hv
    subst hv
    exact ⟨cur, hh⟩
/-- A list of numbers of our own that grows turns nothing of what is told. -/
theorem memo_own {A : Nat → Prop} {B e np N : Nat} {g : Nat → Nat} {ts : Nat → Data} {w w' : World} (h : Memo A B e np N g ts w) {B' n : Nat} {v : Value} {xs : List Value} (ho : w.ownsRow B' 3 1 v n xs) (hg : w.grownBy w' v.ownBlock) : Memo A B e np N g ts w' := by
  refine memo_tag h (hg.block e (memo_lt h) fun e' => ?_) fun k cs T fr hk hT => hg.block k (heap_lt hk) fun e' => ?_
  · obtain ⟨cs, hc⟩ := own_tag ho e'.symm
    obtain ⟨cs', hc', _⟩ := h.cells
    rw [hc] at hc'
    simp at hc'
  · obtain ⟨cs', hc⟩ := own_tag ho e'.symm
    rw [hc] at hk
    simp at hk
    rcases hT with rfl | rfl <;> simp at hk
theorem bs_own {q m : Nat} {M : Nat → Bool} {w w' : World} (h : Bs q m M w) {B' n : Nat} {v : Value} {xs : List Value} (ho : w.ownsRow B' 3 1 v n xs) (hg : w.grownBy w' v.ownBlock) : Bs q m M w' := by
  refine h.kept (hg.block q h.lt fun e' => ?_)
  obtain ⟨cs, hc⟩ := own_tag ho e'.symm
  unfold Bs at h
  rw [hc] at h
  simp at h
theorem memo_grown {A : Nat → Prop} {B e np N : Nat} {g : Nat → Nat} {ts : Nat → Data} {w w' : World} {row : Option Nat} (h : Memo A B e np N g ts w) (hg : w.grownBy w' row) (hr : ∀ b, row = some b → A b ∧ b ≠ e) : Memo A B e np N g ts w' :=
  memo_kept h (hg.block e (memo_lt h) fun e' => (hr _ e'.symm).2 rfl) fun k _ hl hA => hg.block k hl fun e' => hA (hr _ e'.symm).1

set_option maxHeartbeats 4000000 in
set_option maxRecDepth 100000 in
theorem sOften0 {w0 : World} {p e np : Nat} {s : ByteArray} {ts : Nat → Data} {kn' : Nat → List Nat} (hSt : St w0 p e np s ts kn') {kid : Nat} (hF : FromOk w0 p e np s ts kid) (hle : ∀ a b, a ≤ s.size → Fit (gOf s) s.size (ts kid) a b → b ≤ s.size)
    (A : Nat → Prop) (at' : Nat) (w : World) (hat : at' ≤ s.size) (hA : ∀ k, A k → k < w.heap.size) (hb : But e w0 w) (hM : Memo A w0.heap.size e np s.size (gOf s) ts w) :
    Calls Tryz.prog 84 #[.pointer (some ⟨p, 0, none⟩), .int .i64 kid, .int .i64 at', .int .i64 0] w fun en w' => Told A w0 e np s ts (pB (Star (Fit (gOf s) s.size (ts kid)) at')) w en w' := by
  obtain ⟨N1, hN1⟩ : ∃ N1 : Nat, N1 = s.size + 1 := ⟨_, rfl⟩
  obtain ⟨i0, hi0, hz0, hz1, hz2⟩ := info_parts Tryz.infoIntr
  have hsm := hSt.small
  have hel := hSt.el
  have bN : (N1 : Int) ≤ 1001 := by omega
  have bN' : N1 ≤ 1001 := by omega
  have bat : (at' : Int) < N1 := by omega
  have t1 : (s.size : Int) + 1 = (N1 : Int) := by omega
  have hw0 := hb.2.2.2.1
  have bs : (s.size : Int) ≤ 1000 := by omega
  have HN : Hid (N1 = s.size + 1) := hN1
  have hmk := run_make_row' (P := Tryz.prog) 60 4 (.bool false) 1 Tryz.underlying60 Tryz.infoBoolr rfl .i64 .i64 N1 (by omega) (by omega)
  obtain ⟨c1, -⟩ := hSt.cells hb
  have hpl : p < w.heap.size := lt_of_cell c1
  have c1' : ∀ o, (w.alloc o).cell? ⟨p, 1, none⟩ = some (.string s) := fun o => (World.cell?_of_block (a := ⟨p, 1, none⟩) (Below.heap_alloc _ _ _ hpl)).trans c1
  obtain ⟨o, ho⟩ : ∃ o : Obj, o = .cells (madeCells #[.bool false] N1) 4 := ⟨_, rfl⟩
  have hA1 : Bs w.heap.size N1 (fun _ => false) (w.alloc o) := by rw [ho]; exact bs_fresh
  have hA2 : Bs w.heap.size N1 (fun _ => false) ((w.alloc o).alloc o) := hA1.kept (Below.heap_alloc _ _ _ (by simp))
  have hV2 : Bs (w.heap.size + 1) N1 (fun _ => false) ((w.alloc o).alloc o) := by
    have h := bs_fresh (n := N1) (w := w.alloc o)
    rw [World.size_alloc] at h
    rw [ho] at h ⊢
    exact h
  have cA := bs_cell hA2 (k := at') (by omega)
  have fA := bs_frozen hA2 at'
  have hA3 := bs_put hA2 at' true
  have hV3 : Bs (w.heap.size + 1) N1 (fun _ => false) (((w.alloc o).alloc o).setCell ⟨w.heap.size, at', none⟩ (.bool true)) := hV2.kept (Below.heap_setCell _ _ _ _ (by show w.heap.size + 1 ≠ w.heap.size; omega))
  have hK3 : Kp w0.heap.size e w (((w.alloc o).alloc o).setCell ⟨w.heap.size, at', none⟩ (.bool true)) := (((Kp.refl _ _ w).alloc _).alloc _).set (Nat.le_refl _) (by omega) _ _
  have hM3 : Memo (fun k => A k ∨ k = w.heap.size ∨ k = w.heap.size + 1) w0.heap.size e np s.size (gOf s) ts (((w.alloc o).alloc o).setCell ⟨w.heap.size, at', none⟩ (.bool true)) :=
    memo_set (memo_alloc (memo_alloc (memo_mono hM fun k hk h => by rcases h with h | h | h; exact h; omega; omega) o) o) (.inr (.inl rfl)) (by omega) _ _
  rw [← ho] at hmk
  obtain ⟨w3, hw3⟩ : ∃ w3, w3 = ((w.alloc o).alloc o).setCell ⟨w.heap.size, at', none⟩ (.bool true) := ⟨_, rfl⟩
  clear hN1 ho hA1 hV2
  obtain ⟨R, hR⟩ : ∃ R, R = Fit (gOf s) s.size (ts kid) := ⟨_, rfl⟩
  rw [← hR] at hle ⊢
  have HR : Hid (R = Fit (gOf s) s.size (ts kid)) := hR
  clear hR
  go_enter Tryz.func84, Tryz.ntmps84
  go_wp2_with fail
  have hwE : ((w.alloc o).alloc o).setCell ⟨w.heap.size, at', none⟩ (.bool true) = ((w.alloc o).setCell ⟨w.heap.size, at', none⟩ (.bool true)).alloc o := World.setCell_alloc_past _ _ _ _ (by simp)
  rw [hwE] at hw3
  rw [← hw3]
  rw [← hwE] at hw3
  rw [← hw3] at hA3 hV3 hK3 hM3
  have hs3 : w3.heap.size = w.heap.size + 2 := by rw [hw3]; simp
  clear hw3 hwE cA fA hA2
  go_loopw [9, 11] (fun va v wr => ∃ (L : List Nat) (V Al : Nat → Bool) (gv cap : Nat), va = .slice (some ⟨w.heap.size, 0, none⟩) N1 N1 ∧ v = .slice (some ⟨gv, 0, none⟩) L.length cap ∧ wr.ownsRow (w.heap.size + 2) 3 1 v L.length (ints (natI L)) ∧ L.length + (N1 + 1) * open' V N1 ≤ 1 + (N1 + 1) * N1 ∧ (∀ x ∈ L, x < N1) ∧ Piles R at' L V ∧ Bs w.heap.size N1 Al wr ∧ Bs (w.heap.size + 1) N1 V wr ∧ (∀ x, x < N1 → (Al x = true ↔ (true = true ∧ x = at') ∨ ∃ k, V k = true ∧ R k x)) ∧ Memo (fun k => A k ∨ k = w.heap.size ∨ k = w.heap.size + 1) w0.heap.size e np s.size (gOf s) ts wr ∧ Kp w0.heap.size e w wr) (fun _ v wr => lenW v + (N1 + 2) * open' (flagW wr (w.heap.size + 1)) N1)
  case atStart =>
    refine ⟨[at'], fun _ => false, _, _, 1, rfl, rfl, (by have h := World.ownsRow_lit (base := w.heap.size + 2) (e := 3) (size := 1) w3 #[.int .i64 at'] 1 (by omega) (by unfold maxLen; omega) rfl; rw [hs3] at h; exact h), ?_, fun x hx => by simp at hx; omega, piles_start R at', hA3.kept (Below.heap_alloc _ _ _ (by omega)), hV3.kept (Below.heap_alloc _ _ _ (by omega)), fun x hx => ?_, memo_alloc hM3 _, hK3.alloc _⟩
    · have := Nat.mul_le_mul_left (N1 + 1) (open_le (fun _ => false) N1)
      simp; omega
    · simp [putB]
  case round =>
    clear hA3 hV3 hK3 hM3 hs3
    obtain ⟨L, V, Al, gv, cap, rfl, rfl, ho, hT, hL, hP, hAl, hV, hAV, hMr, hKr⟩ := hrel
    have hbr := hb.kp hKr
    obtain ⟨c1r, -⟩ := hSt.cells hbr
    have hsz := hKr.size
    have hgv := ho.lt gv rfl
    rcases List.eq_nil_or_concat L with rfl | ⟨L', k, rfl⟩
    · go_wp2_with fail
      go_ret
      have hfin : Bs w.heap.size N1 (pB (Star R at')) wr := bs_iff hAl fun x hx => by
        rw [hAV x hx]
        rw [star_last]; simp [hP.done]
      exact ⟨w.heap.size, by rw [← HN.out]; rfl, by rw [← HN.out]; exact hfin, by omega, fun h => by have := hA _ h; omega, hbr, memo_mono hMr (fun k _ h => .inl h), hKr⟩
    · simp only [List.concat_eq_append] at *
      have hlast := owns_cell ho (k := L'.length) (x := k) (by rw [natI_snoc]; simp [natI])
      rw [natI_snoc, ints_append, List.length_append, List.length_singleton] at ho
      have hpop := ownsRow_pop (by rw [ints_len, natI_len]; omega) ho
      rw [List.length_append, List.length_singleton] at hT ⊢
      have hcap : L'.length + 1 ≤ cap := by
        rcases ho.2 with ⟨h, _⟩ | ⟨g', cap', cur, h, _, _, h1, _⟩
        · simp at h
        · simp at h; omega
      have hcm : cap ≤ maxLen := by
        rcases ho.2 with ⟨h, _⟩ | ⟨g', cap', cur, h, _, _, _, h1, _⟩
        · simp at h
        · simp at h; omega
      have hmul : (N1 + 1) * N1 ≤ 1100000 := Nat.le_trans (Nat.mul_le_mul (show N1 + 1 ≤ 1002 by omega) bN') (by decide)
      have hlT : (L'.length : Int) ≤ 1100000 := by
        have := Nat.zero_le ((N1 + 1) * open' V N1)
        omega
      have hkN : k < N1 := hL k (by simp)
      obtain ⟨m, hm⟩ : ∃ m, m = L'.length := ⟨_, rfl⟩
      rw [← hm] at ho hlast hpop hcap hlT hT ⊢
      have Hm : Hid (m = L'.length) := hm
      have HF : Hid (open' (flagW wr (w.heap.size + 1)) N1 = open' V N1) := open_flagW hV
      clear hm
      have hlit : (wr.alloc (.cells #[] 3)).ownsRow (w.heap.size + 2) 3 1 (.slice (some ⟨wr.heap.size, 0, none⟩) 0 0) 0 [] := World.ownsRow_made wr #[] 0 (by omega) (by unfold maxLen; omega) rfl
      have hnews : ∀ j u, (ints (natI L'))[j]? = some u → (wr.alloc (.cells #[] 3)).cell? ((⟨gv, 0, none⟩ : Addr).add j) = some u := by
        intro j u hj
        have hadd : (⟨gv, 0, none⟩ : Addr).add j = ⟨gv, j, none⟩ := by unfold Addr.add; split <;> simp_all
        rw [hadd, World.cell?_of_block (a := ⟨gv, j, none⟩) (Below.heap_alloc _ _ _ hgv.2)]
        simp only [ints, List.getElem?_map, Option.map_eq_some_iff] at hj
        obtain ⟨x, hx, rfl⟩ := hj
        exact owns_cell hpop hx
      have hcV := bs_cell hV hkN
      have hfV := bs_frozen hV k
      have hoA := hMr
      go_upto_region 8 with (at_builtin; refine wpList_append_own_at _ rfl _ _ 29 rfl (w.heap.size + 2) 3 i0 (.int .i64 0) 1 8 Tryz.underlying29 hi0 hz0 hz1 hz2 rfl (by decide) _ _ _ rfl hlit ⟨gv, 0, none⟩ m _ (ints (natI L')) rfl (by rw [ints_len, natI_len, Hm.out]; omega) hnews (ints_cell1 _) (by unfold maxLen; omega) (by omega) (by simp; omega) ?_; intro v' w1 hown' hgrow hnil' _)
      have ho1 : w1.ownsRow (w.heap.size + 2) 3 1 v' m (ints (natI L')) := by simpa using hown'
      obtain ⟨gv1, cap1, rfl⟩ : ∃ gv1 cap1, v' = .slice (some ⟨gv1, 0, none⟩) m cap1 := by
        rcases ho1.2 with ⟨h, _⟩ | ⟨g', cap', cur, h, _⟩
        · have h' := (hnil'.1 h).1
          cases h'
        · exact ⟨g', cap', h⟩
      have hM1 := memo_own (memo_alloc hMr (.cells #[] 3)) hlit hgrow
      have hK1 : Kp w0.heap.size e w w1 := (hKr.alloc (.cells #[] 3)).grown hgrow (fun b hb => by cases hb; omega) (by omega)
      have hAl1 := bs_own (hAl.kept (Below.heap_alloc wr (.cells #[] 3) _ (by omega))) hlit hgrow
      have hV1 := bs_own (hV.kept (Below.heap_alloc wr (.cells #[] 3) _ (by omega))) hlit hgrow
      have hz1' := hgrow.size
      rw [World.size_alloc] at hz1'
      clear hown' hgrow hnil' hcV hfV hnews hlit hMr hKr hbr c1r hAl hV ho hpop hlast hoA
      have hcV := bs_cell hV1 hkN
      have hfV := bs_frozen hV1 k
      rcases hVk : V k with _ | _
      · rw [hVk] at hcV
        have hK2 : Kp w0.heap.size e w (w1.setCell ⟨w.heap.size + 1, k, none⟩ (.bool true)) := hK1.set (by omega) (by omega) _ _
        have hM2 : Memo (fun k => A k ∨ k = w.heap.size ∨ k = w.heap.size + 1) w0.heap.size e np s.size (gOf s) ts (w1.setCell ⟨w.heap.size + 1, k, none⟩ (.bool true)) := memo_set hM1 (.inr (.inr rfl)) (by omega) _ _
        have hV2 := bs_set hV1 k
        have hAl2 : Bs w.heap.size N1 Al (w1.setCell ⟨w.heap.size + 1, k, none⟩ (.bool true)) := hAl1.kept (Below.heap_setCell _ _ _ _ (by show w.heap.size ≠ w.heap.size + 1; omega))
        have ho2 : (w1.setCell ⟨w.heap.size + 1, k, none⟩ (.bool true)).ownsRow (w.heap.size + 2) 3 1 (.slice (some ⟨gv1, 0, none⟩) m cap1) m (ints (natI L')) := Clo.owns_same ho1 fun g hg => Below.heap_setCell _ _ _ _ (by have := (ho1.lt g hg).1; show g ≠ w.heap.size + 1; omega)
        have hO := open_mark hkN hVk
        obtain ⟨w2, hw2⟩ : ∃ w2, w2 = w1.setCell ⟨w.heap.size + 1, k, none⟩ (.bool true) := ⟨_, rfl⟩
        have hz2' : w2.heap.size = w1.heap.size := by rw [hw2]; simp
        rw [← hw2] at hK2 hM2 hV2 hAl2 ho2
        have hfrom := hF (fun k => A k ∨ k = w.heap.size ∨ k = w.heap.size + 1) k w2 (by have := HN.out; omega) (fun x hx => by
          rcases hx with hx | rfl | rfl
          · have := hA x hx; omega
          · omega
          · omega) (hb.kp hK2) hM2
        go_upto_region 10 with fail
        go_wp2_with fail
        rw [← hw2]
        refine hfrom.mono ?_
        rintro en w4 ⟨d4, rfl, hd4, hd4B, hd4A, hb4, hM4, hK4⟩
        rw [← HN.out] at hd4 ⊢
        have hl4 := hK4.size
        have hAl4 := bs_kp hAl2 hK4 (by omega)
        have hV4 := bs_kp hV2 hK4 (by omega)
        have ho4 : w4.ownsRow (w.heap.size + 2) 3 1 (.slice (some ⟨gv1, 0, none⟩) m cap1) m (ints (natI L')) := Clo.owns_same ho2 fun g hg => hK4.block g (ho2.lt g hg).2 (by have := (ho2.lt g hg).1; omega) fun _ cs fr hc => by
          obtain ⟨cs', hc'⟩ := own_tag ho2 hg
          rw [hc'] at hc
          simp at hc
        have hj4 := sJoin hAl4 hd4 (fun h => hd4A (.inr (.inl h.symm))) (by omega)
        go_wp2_with fail
        refine hj4.mono ?_
        rintro en w5 ⟨rfl, hAl5, hbut⟩
        have hl5 := hbut.2.2.2.1
        have hV5 := hV4.kept (hbut.2.2.2.2 _ (by omega) hV4.lt)
        have hd5 := hd4.kept (hbut.2.2.2.2 _ (fun h => hd4A (.inr (.inl h))) hd4.lt)
        have ho5 : w5.ownsRow (w.heap.size + 2) 3 1 (.slice (some ⟨gv1, 0, none⟩) m cap1) m (ints (natI L')) := Clo.owns_same ho4 fun g hg => hbut.2.2.2.2 g (by have := (ho4.lt g hg).1; omega) (ho4.lt g hg).2
        have hK5 := (hK2.trans hK4).of_but hbut (by omega) (by omega)
        have hM5 := memo_but hM4 (.inr (.inl rfl)) (by omega) hbut
        have hP5 := hP.begin
        clear hfrom hj4 hK2 hM2 hV2 hAl2 ho2 hK4 hM4 hAl4 hV4 hd4 ho4 hbut hK1 hM1 hAl1 hV1 hcV hfV ho1 hP
        go_wp2_with fail
        go_loopw [11, 14] (fun v i wx => ∃ (x : Nat) (L2 : List Nat) (g2 cap2 : Nat), v = .slice (some ⟨g2, 0, none⟩) L2.length cap2 ∧ i = .int .i64 x ∧ x ≤ N1 ∧ wx.ownsRow (w.heap.size + 2) 3 1 v L2.length (ints (natI L2)) ∧ L2.length ≤ m + x ∧ (∀ x ∈ L2, x < N1) ∧ Pile R at' L2 (Clo.mark V k) k x ∧ Bs w.heap.size N1 (fun y => Al y || endsB (gOf s) s.size (ts kid) k y) wx ∧ Bs (w.heap.size + 1) N1 (Clo.mark V k) wx ∧ Bs d4 N1 (endsB (gOf s) s.size (ts kid) k) wx ∧ Memo (fun k => A k ∨ k = w.heap.size ∨ k = w.heap.size + 1) w0.heap.size e np s.size (gOf s) ts wx ∧ Kp w0.heap.size e w wx) (fun _ i _ => N1 - (intOf i).toNat)
        case atStart => exact ⟨0, L', gv1, cap1, by rw [← Hm.out], rfl, by omega, by rw [← Hm.out]; exact ho5, by rw [← Hm.out]; omega, fun x hx => hL x (by simp [hx]), hP5, hAl5, hV5, hd5, hM5, hK5⟩
        case round =>
          clear hAl5 hV5 hd5 ho5 hK5 hM5 hP5
          obtain ⟨x, L2, g2, cap2, rfl, rfl, hx, ho, hl2, hL2, hP2, hAl2, hV2, hd2, hM2, hK2⟩ := hrel
          have hz := hK2.size
          by_cases hxl : x < N1
          · have ce := bs_cell hd2 hxl
            have cv := bs_cell hV2 hxl
            by_cases hpush : endsB (gOf s) s.size (ts kid) k x = true ∧ Clo.mark V k x = false
            · obtain ⟨p1, p2⟩ := hpush
              rw [p1] at ce
              rw [p2] at cv
              have hPp := hP2.push (Clo.mark_self _ _) (by rw [HR.out]; exact endsB_iff.1 p1)
              have hl3 : (L2.length : Int) ≤ 1200000 := by omega
              have hone : ∀ j u, (ints [(x : Int)])[j]? = some u → (wr.alloc (.cells #[.int .i64 x] 3)).cell? ((⟨wr.heap.size, 0, none⟩ : Addr).add j) = some u := cell_one_new _ _ _
              have hoA := ho.alloc (.cells #[.int .i64 (x : Int)] 3)
              go_wp2_with (at_builtin; refine wpList_append_own_at _ rfl _ _ 29 rfl (w.heap.size + 2) 3 i0 (.int .i64 0) 1 8 Tryz.underlying29 hi0 hz0 hz1 hz2 rfl (by decide) _ _ _ rfl hoA ⟨wr.heap.size, 0, none⟩ 1 1 (ints [(x : Int)]) rfl rfl hone (ints_cell1 _) (by unfold maxLen; omega) (by omega) (by have := (ho.lt g2 rfl); simp; omega) ?_; intro v' w6 hown' hgrow hnil' _)
              have hlt2 := ho.lt g2 rfl
              have ho6 : w6.ownsRow (w.heap.size + 2) 3 1 v' (L2 ++ [x]).length (ints (natI (L2 ++ [x]))) := by
                rw [natI_snoc, ints_append, List.length_append, List.length_singleton]
                exact hown'
              obtain ⟨g6, cap6, rfl⟩ : ∃ g6 cap6, v' = .slice (some ⟨g6, 0, none⟩) (L2 ++ [x]).length cap6 := by
                rcases ho6.2 with ⟨h, _⟩ | ⟨g', cap', cur, h, _⟩
                · have h' := (hnil'.1 h).1
                  cases h'
                · exact ⟨g', cap', h⟩
              go_roundw
              case rel =>
                refine ⟨x + 1, L2 ++ [x], g6, cap6, rfl, by go_num, by omega, ho6, by simp; omega, fun y hy => ?_, hPp, ?_, ?_, ?_, ?_, ?_⟩
                · rcases List.mem_append.1 hy with h | h
                  · exact hL2 y h
                  · simp at h; omega
                · exact bs_own (hAl2.kept (Below.heap_alloc _ _ _ hAl2.lt)) hoA hgrow
                · exact bs_own (hV2.kept (Below.heap_alloc _ _ _ hV2.lt)) hoA hgrow
                · exact bs_own (hd2.kept (Below.heap_alloc _ _ _ hd2.lt)) hoA hgrow
                · exact memo_own (memo_alloc hM2 _) hoA hgrow
                · exact (hK2.alloc _).grown hgrow (fun b hb => by have h1 := (hoA.lt b hb).1; omega) (by omega)
              case measure => simp [intOf]; omega
            · have hPp := hP2.pass (m := x) (by
                rcases h1 : endsB (gOf s) s.size (ts kid) k x with _ | _
                · left
                  rw [HR.out]
                  intro h
                  rw [endsB_iff.2 h] at h1
                  cases h1
                · right
                  rcases h2 : Clo.mark V k x with _ | _
                  · exact absurd ⟨h1, h2⟩ hpush
                  · rfl)
              rcases h1 : endsB (gOf s) s.size (ts kid) k x with _ | _
              · rw [h1] at ce
                go_wp2_with fail
                go_roundw
                case rel => exact ⟨x + 1, L2, g2, cap2, rfl, by go_num, by omega, ho, by omega, hL2, hPp, hAl2, hV2, hd2, hM2, hK2⟩
                case measure => simp [intOf]; omega
              · rw [h1] at ce
                rcases h2 : Clo.mark V k x with _ | _
                · exact absurd ⟨h1, h2⟩ hpush
                · rw [h2] at cv
                  go_wp2_with fail
                  go_roundw
                  case rel => exact ⟨x + 1, L2, g2, cap2, rfl, by go_num, by omega, ho, by omega, hL2, hPp, hAl2, hV2, hd2, hM2, hK2⟩
                  case measure => simp [intOf]; omega
          · obtain rfl : x = N1 := by omega
            have hPd := hP2.done (fun y hy => by have := hle k y (by have := HN.out; omega) hy; have := HN.out; omega)
            have hmulE : (x + 1) * open' V x = (x + 1) * open' (Clo.mark V k) x + (x + 1) := by rw [← hO, Nat.mul_add, Nat.mul_one]
            have hmulF : (x + 2) * open' V x = (x + 2) * open' (Clo.mark V k) x + (x + 2) := by rw [← hO, Nat.mul_add, Nat.mul_one]
            go_wp2_with fail
            go_roundw
            case rel =>
              refine ⟨L2, Clo.mark V k, _, g2, cap2, rfl, rfl, ho, by omega, hL2, hPd, hAl2, hV2, fun y hy => ?_, hM2, hK2⟩
              rw [Bool.or_eq_true, hAV y hy, endsB_iff, ← HR.out]
              constructor
              · rintro ((h | ⟨z, h1, h2⟩) | h)
                · exact .inl h
                · exact .inr ⟨z, Clo.mark_old h1, h2⟩
                · exact .inr ⟨k, Clo.mark_self _ _, h⟩
              · rintro (h | ⟨z, h1, h2⟩)
                · exact .inl (.inl h)
                · rcases Clo.mark_or h1 with h3 | rfl
                  · exact .inl (.inr ⟨z, h3, h2⟩)
                  · exact .inr h2
            case measure =>
              rw [open_flagW hV2, HF.out]
              simp [lenW]
              omega
      · rw [hVk] at hcV
        have hS := hP.skip hVk
        go_wp2_with fail
        go_roundw
        case rel => exact ⟨L', V, Al, gv1, cap1, rfl, by rw [Hm.out], by rw [← Hm.out]; exact ho1, by rw [← Hm.out]; omega, fun x hx => hL x (by simp [hx]), hS, hAl1, hV1, hAV, hM1, hK1⟩
        case measure =>
          rw [open_flagW hV1, HF.out]
          simp [lenW]

set_option maxHeartbeats 4000000 in
set_option maxRecDepth 100000 in
theorem sOften1 {w0 : World} {p e np : Nat} {s : ByteArray} {ts : Nat → Data} {kn' : Nat → List Nat} (hSt : St w0 p e np s ts kn') {kid : Nat} (hF : FromOk w0 p e np s ts kid) (hle : ∀ a b, a ≤ s.size → Fit (gOf s) s.size (ts kid) a b → b ≤ s.size)
    (A : Nat → Prop) (at' : Nat) (w : World) (hat : at' ≤ s.size) (hA : ∀ k, A k → k < w.heap.size) (hb : But e w0 w) (hM : Memo A w0.heap.size e np s.size (gOf s) ts w) :
    Calls Tryz.prog 84 #[.pointer (some ⟨p, 0, none⟩), .int .i64 kid, .int .i64 at', .int .i64 1] w fun en w' => Told A w0 e np s ts (pB (fun j => ∃ k, Fit (gOf s) s.size (ts kid) at' k ∧ Star (Fit (gOf s) s.size (ts kid)) k j)) w en w' := by
  obtain ⟨N1, hN1⟩ : ∃ N1 : Nat, N1 = s.size + 1 := ⟨_, rfl⟩
  obtain ⟨i0, hi0, hz0, hz1, hz2⟩ := info_parts Tryz.infoIntr
  have hsm := hSt.small
  have hel := hSt.el
  have bN : (N1 : Int) ≤ 1001 := by omega
  have bN' : N1 ≤ 1001 := by omega
  have bat : (at' : Int) < N1 := by omega
  have t1 : (s.size : Int) + 1 = (N1 : Int) := by omega
  have hw0 := hb.2.2.2.1
  have bs : (s.size : Int) ≤ 1000 := by omega
  have HN : Hid (N1 = s.size + 1) := hN1
  have hmk := run_make_row' (P := Tryz.prog) 60 4 (.bool false) 1 Tryz.underlying60 Tryz.infoBoolr rfl .i64 .i64 N1 (by omega) (by omega)
  obtain ⟨c1, -⟩ := hSt.cells hb
  have hpl : p < w.heap.size := lt_of_cell c1
  have c1' : ∀ o, (w.alloc o).cell? ⟨p, 1, none⟩ = some (.string s) := fun o => (World.cell?_of_block (a := ⟨p, 1, none⟩) (Below.heap_alloc _ _ _ hpl)).trans c1
  obtain ⟨o, ho⟩ : ∃ o : Obj, o = .cells (madeCells #[.bool false] N1) 4 := ⟨_, rfl⟩
  have hA1 : Bs w.heap.size N1 (fun _ => false) (w.alloc o) := by rw [ho]; exact bs_fresh
  have hA2 : Bs w.heap.size N1 (fun _ => false) ((w.alloc o).alloc o) := hA1.kept (Below.heap_alloc _ _ _ (by simp))
  have hV2 : Bs (w.heap.size + 1) N1 (fun _ => false) ((w.alloc o).alloc o) := by
    have h := bs_fresh (n := N1) (w := w.alloc o)
    rw [World.size_alloc] at h
    rw [ho] at h ⊢
    exact h
  have cA := bs_cell hA2 (k := at') (by omega)
  have fA := bs_frozen hA2 at'
  have hA3 := bs_put hA2 at' false
  have hV3 : Bs (w.heap.size + 1) N1 (fun _ => false) (((w.alloc o).alloc o).setCell ⟨w.heap.size, at', none⟩ (.bool false)) := hV2.kept (Below.heap_setCell _ _ _ _ (by show w.heap.size + 1 ≠ w.heap.size; omega))
  have hK3 : Kp w0.heap.size e w (((w.alloc o).alloc o).setCell ⟨w.heap.size, at', none⟩ (.bool false)) := (((Kp.refl _ _ w).alloc _).alloc _).set (Nat.le_refl _) (by omega) _ _
  have hM3 : Memo (fun k => A k ∨ k = w.heap.size ∨ k = w.heap.size + 1) w0.heap.size e np s.size (gOf s) ts (((w.alloc o).alloc o).setCell ⟨w.heap.size, at', none⟩ (.bool false)) :=
    memo_set (memo_alloc (memo_alloc (memo_mono hM fun k hk h => by rcases h with h | h | h; exact h; omega; omega) o) o) (.inr (.inl rfl)) (by omega) _ _
  rw [← ho] at hmk
  obtain ⟨w3, hw3⟩ : ∃ w3, w3 = ((w.alloc o).alloc o).setCell ⟨w.heap.size, at', none⟩ (.bool false) := ⟨_, rfl⟩
  clear hN1 ho hA1 hV2
  obtain ⟨R, hR⟩ : ∃ R, R = Fit (gOf s) s.size (ts kid) := ⟨_, rfl⟩
  rw [← hR] at hle ⊢
  have HR : Hid (R = Fit (gOf s) s.size (ts kid)) := hR
  clear hR
  go_enter Tryz.func84, Tryz.ntmps84
  go_wp2_with fail
  have hwE : ((w.alloc o).alloc o).setCell ⟨w.heap.size, at', none⟩ (.bool false) = ((w.alloc o).setCell ⟨w.heap.size, at', none⟩ (.bool false)).alloc o := World.setCell_alloc_past _ _ _ _ (by simp)
  rw [hwE] at hw3
  rw [← hw3]
  rw [← hwE] at hw3
  rw [← hw3] at hA3 hV3 hK3 hM3
  have hs3 : w3.heap.size = w.heap.size + 2 := by rw [hw3]; simp
  clear hw3 hwE cA fA hA2
  go_loopw [9, 11] (fun va v wr => ∃ (L : List Nat) (V Al : Nat → Bool) (gv cap : Nat), va = .slice (some ⟨w.heap.size, 0, none⟩) N1 N1 ∧ v = .slice (some ⟨gv, 0, none⟩) L.length cap ∧ wr.ownsRow (w.heap.size + 2) 3 1 v L.length (ints (natI L)) ∧ L.length + (N1 + 1) * open' V N1 ≤ 1 + (N1 + 1) * N1 ∧ (∀ x ∈ L, x < N1) ∧ Piles R at' L V ∧ Bs w.heap.size N1 Al wr ∧ Bs (w.heap.size + 1) N1 V wr ∧ (∀ x, x < N1 → (Al x = true ↔ (false = true ∧ x = at') ∨ ∃ k, V k = true ∧ R k x)) ∧ Memo (fun k => A k ∨ k = w.heap.size ∨ k = w.heap.size + 1) w0.heap.size e np s.size (gOf s) ts wr ∧ Kp w0.heap.size e w wr) (fun _ v wr => lenW v + (N1 + 2) * open' (flagW wr (w.heap.size + 1)) N1)
  case atStart =>
    refine ⟨[at'], fun _ => false, _, _, 1, rfl, rfl, (by have h := World.ownsRow_lit (base := w.heap.size + 2) (e := 3) (size := 1) w3 #[.int .i64 at'] 1 (by omega) (by unfold maxLen; omega) rfl; rw [hs3] at h; exact h), ?_, fun x hx => by simp at hx; omega, piles_start R at', hA3.kept (Below.heap_alloc _ _ _ (by omega)), hV3.kept (Below.heap_alloc _ _ _ (by omega)), fun x hx => ?_, memo_alloc hM3 _, hK3.alloc _⟩
    · have := Nat.mul_le_mul_left (N1 + 1) (open_le (fun _ => false) N1)
      simp; omega
    · simp [putB]
  case round =>
    clear hA3 hV3 hK3 hM3 hs3
    obtain ⟨L, V, Al, gv, cap, rfl, rfl, ho, hT, hL, hP, hAl, hV, hAV, hMr, hKr⟩ := hrel
    have hbr := hb.kp hKr
    obtain ⟨c1r, -⟩ := hSt.cells hbr
    have hsz := hKr.size
    have hgv := ho.lt gv rfl
    rcases List.eq_nil_or_concat L with rfl | ⟨L', k, rfl⟩
    · go_wp2_with fail
      go_ret
      have hfin : Bs w.heap.size N1 (pB (fun j => ∃ k, R at' k ∧ Star R k j)) wr := bs_iff hAl fun x hx => by
        rw [hAV x hx]
        rw [plus_last]; simp [hP.done]
      exact ⟨w.heap.size, by rw [← HN.out]; rfl, by rw [← HN.out]; exact hfin, by omega, fun h => by have := hA _ h; omega, hbr, memo_mono hMr (fun k _ h => .inl h), hKr⟩
    · simp only [List.concat_eq_append] at *
      have hlast := owns_cell ho (k := L'.length) (x := k) (by rw [natI_snoc]; simp [natI])
      rw [natI_snoc, ints_append, List.length_append, List.length_singleton] at ho
      have hpop := ownsRow_pop (by rw [ints_len, natI_len]; omega) ho
      rw [List.length_append, List.length_singleton] at hT ⊢
      have hcap : L'.length + 1 ≤ cap := by
        rcases ho.2 with ⟨h, _⟩ | ⟨g', cap', cur, h, _, _, h1, _⟩
        · simp at h
        · simp at h; omega
      have hcm : cap ≤ maxLen := by
        rcases ho.2 with ⟨h, _⟩ | ⟨g', cap', cur, h, _, _, _, h1, _⟩
        · simp at h
        · simp at h; omega
      have hmul : (N1 + 1) * N1 ≤ 1100000 := Nat.le_trans (Nat.mul_le_mul (show N1 + 1 ≤ 1002 by omega) bN') (by decide)
      have hlT : (L'.length : Int) ≤ 1100000 := by
        have := Nat.zero_le ((N1 + 1) * open' V N1)
        omega
      have hkN : k < N1 := hL k (by simp)
      obtain ⟨m, hm⟩ : ∃ m, m = L'.length := ⟨_, rfl⟩
      rw [← hm] at ho hlast hpop hcap hlT hT ⊢
      have Hm : Hid (m = L'.length) := hm
      have HF : Hid (open' (flagW wr (w.heap.size + 1)) N1 = open' V N1) := open_flagW hV
      clear hm
      have hlit : (wr.alloc (.cells #[] 3)).ownsRow (w.heap.size + 2) 3 1 (.slice (some ⟨wr.heap.size, 0, none⟩) 0 0) 0 [] := World.ownsRow_made wr #[] 0 (by omega) (by unfold maxLen; omega) rfl
      have hnews : ∀ j u, (ints (natI L'))[j]? = some u → (wr.alloc (.cells #[] 3)).cell? ((⟨gv, 0, none⟩ : Addr).add j) = some u := by
        intro j u hj
        have hadd : (⟨gv, 0, none⟩ : Addr).add j = ⟨gv, j, none⟩ := by unfold Addr.add; split <;> simp_all
        rw [hadd, World.cell?_of_block (a := ⟨gv, j, none⟩) (Below.heap_alloc _ _ _ hgv.2)]
        simp only [ints, List.getElem?_map, Option.map_eq_some_iff] at hj
        obtain ⟨x, hx, rfl⟩ := hj
        exact owns_cell hpop hx
      have hcV := bs_cell hV hkN
      have hfV := bs_frozen hV k
      have hoA := hMr
      go_upto_region 8 with (at_builtin; refine wpList_append_own_at _ rfl _ _ 29 rfl (w.heap.size + 2) 3 i0 (.int .i64 0) 1 8 Tryz.underlying29 hi0 hz0 hz1 hz2 rfl (by decide) _ _ _ rfl hlit ⟨gv, 0, none⟩ m _ (ints (natI L')) rfl (by rw [ints_len, natI_len, Hm.out]; omega) hnews (ints_cell1 _) (by unfold maxLen; omega) (by omega) (by simp; omega) ?_; intro v' w1 hown' hgrow hnil' _)
      have ho1 : w1.ownsRow (w.heap.size + 2) 3 1 v' m (ints (natI L')) := by simpa using hown'
      obtain ⟨gv1, cap1, rfl⟩ : ∃ gv1 cap1, v' = .slice (some ⟨gv1, 0, none⟩) m cap1 := by
        rcases ho1.2 with ⟨h, _⟩ | ⟨g', cap', cur, h, _⟩
        · have h' := (hnil'.1 h).1
          cases h'
        · exact ⟨g', cap', h⟩
      have hM1 := memo_own (memo_alloc hMr (.cells #[] 3)) hlit hgrow
      have hK1 : Kp w0.heap.size e w w1 := (hKr.alloc (.cells #[] 3)).grown hgrow (fun b hb => by cases hb; omega) (by omega)
      have hAl1 := bs_own (hAl.kept (Below.heap_alloc wr (.cells #[] 3) _ (by omega))) hlit hgrow
      have hV1 := bs_own (hV.kept (Below.heap_alloc wr (.cells #[] 3) _ (by omega))) hlit hgrow
      have hz1' := hgrow.size
      rw [World.size_alloc] at hz1'
      clear hown' hgrow hnil' hcV hfV hnews hlit hMr hKr hbr c1r hAl hV ho hpop hlast hoA
      have hcV := bs_cell hV1 hkN
      have hfV := bs_frozen hV1 k
      rcases hVk : V k with _ | _
      · rw [hVk] at hcV
        have hK2 : Kp w0.heap.size e w (w1.setCell ⟨w.heap.size + 1, k, none⟩ (.bool true)) := hK1.set (by omega) (by omega) _ _
        have hM2 : Memo (fun k => A k ∨ k = w.heap.size ∨ k = w.heap.size + 1) w0.heap.size e np s.size (gOf s) ts (w1.setCell ⟨w.heap.size + 1, k, none⟩ (.bool true)) := memo_set hM1 (.inr (.inr rfl)) (by omega) _ _
        have hV2 := bs_set hV1 k
        have hAl2 : Bs w.heap.size N1 Al (w1.setCell ⟨w.heap.size + 1, k, none⟩ (.bool true)) := hAl1.kept (Below.heap_setCell _ _ _ _ (by show w.heap.size ≠ w.heap.size + 1; omega))
        have ho2 : (w1.setCell ⟨w.heap.size + 1, k, none⟩ (.bool true)).ownsRow (w.heap.size + 2) 3 1 (.slice (some ⟨gv1, 0, none⟩) m cap1) m (ints (natI L')) := Clo.owns_same ho1 fun g hg => Below.heap_setCell _ _ _ _ (by have := (ho1.lt g hg).1; show g ≠ w.heap.size + 1; omega)
        have hO := open_mark hkN hVk
        obtain ⟨w2, hw2⟩ : ∃ w2, w2 = w1.setCell ⟨w.heap.size + 1, k, none⟩ (.bool true) := ⟨_, rfl⟩
        have hz2' : w2.heap.size = w1.heap.size := by rw [hw2]; simp
        rw [← hw2] at hK2 hM2 hV2 hAl2 ho2
        have hfrom := hF (fun k => A k ∨ k = w.heap.size ∨ k = w.heap.size + 1) k w2 (by have := HN.out; omega) (fun x hx => by
          rcases hx with hx | rfl | rfl
          · have := hA x hx; omega
          · omega
          · omega) (hb.kp hK2) hM2
        go_upto_region 10 with fail
        go_wp2_with fail
        rw [← hw2]
        refine hfrom.mono ?_
        rintro en w4 ⟨d4, rfl, hd4, hd4B, hd4A, hb4, hM4, hK4⟩
        rw [← HN.out] at hd4 ⊢
        have hl4 := hK4.size
        have hAl4 := bs_kp hAl2 hK4 (by omega)
        have hV4 := bs_kp hV2 hK4 (by omega)
        have ho4 : w4.ownsRow (w.heap.size + 2) 3 1 (.slice (some ⟨gv1, 0, none⟩) m cap1) m (ints (natI L')) := Clo.owns_same ho2 fun g hg => hK4.block g (ho2.lt g hg).2 (by have := (ho2.lt g hg).1; omega) fun _ cs fr hc => by
          obtain ⟨cs', hc'⟩ := own_tag ho2 hg
          rw [hc'] at hc
          simp at hc
        have hj4 := sJoin hAl4 hd4 (fun h => hd4A (.inr (.inl h.symm))) (by omega)
        go_wp2_with fail
        refine hj4.mono ?_
        rintro en w5 ⟨rfl, hAl5, hbut⟩
        have hl5 := hbut.2.2.2.1
        have hV5 := hV4.kept (hbut.2.2.2.2 _ (by omega) hV4.lt)
        have hd5 := hd4.kept (hbut.2.2.2.2 _ (fun h => hd4A (.inr (.inl h))) hd4.lt)
        have ho5 : w5.ownsRow (w.heap.size + 2) 3 1 (.slice (some ⟨gv1, 0, none⟩) m cap1) m (ints (natI L')) := Clo.owns_same ho4 fun g hg => hbut.2.2.2.2 g (by have := (ho4.lt g hg).1; omega) (ho4.lt g hg).2
        have hK5 := (hK2.trans hK4).of_but hbut (by omega) (by omega)
        have hM5 := memo_but hM4 (.inr (.inl rfl)) (by omega) hbut
        have hP5 := hP.begin
        clear hfrom hj4 hK2 hM2 hV2 hAl2 ho2 hK4 hM4 hAl4 hV4 hd4 ho4 hbut hK1 hM1 hAl1 hV1 hcV hfV ho1 hP
        go_wp2_with fail
        go_loopw [11, 14] (fun v i wx => ∃ (x : Nat) (L2 : List Nat) (g2 cap2 : Nat), v = .slice (some ⟨g2, 0, none⟩) L2.length cap2 ∧ i = .int .i64 x ∧ x ≤ N1 ∧ wx.ownsRow (w.heap.size + 2) 3 1 v L2.length (ints (natI L2)) ∧ L2.length ≤ m + x ∧ (∀ x ∈ L2, x < N1) ∧ Pile R at' L2 (Clo.mark V k) k x ∧ Bs w.heap.size N1 (fun y => Al y || endsB (gOf s) s.size (ts kid) k y) wx ∧ Bs (w.heap.size + 1) N1 (Clo.mark V k) wx ∧ Bs d4 N1 (endsB (gOf s) s.size (ts kid) k) wx ∧ Memo (fun k => A k ∨ k = w.heap.size ∨ k = w.heap.size + 1) w0.heap.size e np s.size (gOf s) ts wx ∧ Kp w0.heap.size e w wx) (fun _ i _ => N1 - (intOf i).toNat)
        case atStart => exact ⟨0, L', gv1, cap1, by rw [← Hm.out], rfl, by omega, by rw [← Hm.out]; exact ho5, by rw [← Hm.out]; omega, fun x hx => hL x (by simp [hx]), hP5, hAl5, hV5, hd5, hM5, hK5⟩
        case round =>
          clear hAl5 hV5 hd5 ho5 hK5 hM5 hP5
          obtain ⟨x, L2, g2, cap2, rfl, rfl, hx, ho, hl2, hL2, hP2, hAl2, hV2, hd2, hM2, hK2⟩ := hrel
          have hz := hK2.size
          by_cases hxl : x < N1
          · have ce := bs_cell hd2 hxl
            have cv := bs_cell hV2 hxl
            by_cases hpush : endsB (gOf s) s.size (ts kid) k x = true ∧ Clo.mark V k x = false
            · obtain ⟨p1, p2⟩ := hpush
              rw [p1] at ce
              rw [p2] at cv
              have hPp := hP2.push (Clo.mark_self _ _) (by rw [HR.out]; exact endsB_iff.1 p1)
              have hl3 : (L2.length : Int) ≤ 1200000 := by omega
              have hone : ∀ j u, (ints [(x : Int)])[j]? = some u → (wr.alloc (.cells #[.int .i64 x] 3)).cell? ((⟨wr.heap.size, 0, none⟩ : Addr).add j) = some u := cell_one_new _ _ _
              have hoA := ho.alloc (.cells #[.int .i64 (x : Int)] 3)
              go_wp2_with (at_builtin; refine wpList_append_own_at _ rfl _ _ 29 rfl (w.heap.size + 2) 3 i0 (.int .i64 0) 1 8 Tryz.underlying29 hi0 hz0 hz1 hz2 rfl (by decide) _ _ _ rfl hoA ⟨wr.heap.size, 0, none⟩ 1 1 (ints [(x : Int)]) rfl rfl hone (ints_cell1 _) (by unfold maxLen; omega) (by omega) (by have := (ho.lt g2 rfl); simp; omega) ?_; intro v' w6 hown' hgrow hnil' _)
              have hlt2 := ho.lt g2 rfl
              have ho6 : w6.ownsRow (w.heap.size + 2) 3 1 v' (L2 ++ [x]).length (ints (natI (L2 ++ [x]))) := by
                rw [natI_snoc, ints_append, List.length_append, List.length_singleton]
                exact hown'
              obtain ⟨g6, cap6, rfl⟩ : ∃ g6 cap6, v' = .slice (some ⟨g6, 0, none⟩) (L2 ++ [x]).length cap6 := by
                rcases ho6.2 with ⟨h, _⟩ | ⟨g', cap', cur, h, _⟩
                · have h' := (hnil'.1 h).1
                  cases h'
                · exact ⟨g', cap', h⟩
              go_roundw
              case rel =>
                refine ⟨x + 1, L2 ++ [x], g6, cap6, rfl, by go_num, by omega, ho6, by simp; omega, fun y hy => ?_, hPp, ?_, ?_, ?_, ?_, ?_⟩
                · rcases List.mem_append.1 hy with h | h
                  · exact hL2 y h
                  · simp at h; omega
                · exact bs_own (hAl2.kept (Below.heap_alloc _ _ _ hAl2.lt)) hoA hgrow
                · exact bs_own (hV2.kept (Below.heap_alloc _ _ _ hV2.lt)) hoA hgrow
                · exact bs_own (hd2.kept (Below.heap_alloc _ _ _ hd2.lt)) hoA hgrow
                · exact memo_own (memo_alloc hM2 _) hoA hgrow
                · exact (hK2.alloc _).grown hgrow (fun b hb => by have h1 := (hoA.lt b hb).1; omega) (by omega)
              case measure => simp [intOf]; omega
            · have hPp := hP2.pass (m := x) (by
                rcases h1 : endsB (gOf s) s.size (ts kid) k x with _ | _
                · left
                  rw [HR.out]
                  intro h
                  rw [endsB_iff.2 h] at h1
                  cases h1
                · right
                  rcases h2 : Clo.mark V k x with _ | _
                  · exact absurd ⟨h1, h2⟩ hpush
                  · rfl)
              rcases h1 : endsB (gOf s) s.size (ts kid) k x with _ | _
              · rw [h1] at ce
                go_wp2_with fail
                go_roundw
                case rel => exact ⟨x + 1, L2, g2, cap2, rfl, by go_num, by omega, ho, by omega, hL2, hPp, hAl2, hV2, hd2, hM2, hK2⟩
                case measure => simp [intOf]; omega
              · rw [h1] at ce
                rcases h2 : Clo.mark V k x with _ | _
                · exact absurd ⟨h1, h2⟩ hpush
                · rw [h2] at cv
                  go_wp2_with fail
                  go_roundw
                  case rel => exact ⟨x + 1, L2, g2, cap2, rfl, by go_num, by omega, ho, by omega, hL2, hPp, hAl2, hV2, hd2, hM2, hK2⟩
                  case measure => simp [intOf]; omega
          · obtain rfl : x = N1 := by omega
            have hPd := hP2.done (fun y hy => by have := hle k y (by have := HN.out; omega) hy; have := HN.out; omega)
            have hmulE : (x + 1) * open' V x = (x + 1) * open' (Clo.mark V k) x + (x + 1) := by rw [← hO, Nat.mul_add, Nat.mul_one]
            have hmulF : (x + 2) * open' V x = (x + 2) * open' (Clo.mark V k) x + (x + 2) := by rw [← hO, Nat.mul_add, Nat.mul_one]
            go_wp2_with fail
            go_roundw
            case rel =>
              refine ⟨L2, Clo.mark V k, _, g2, cap2, rfl, rfl, ho, by omega, hL2, hPd, hAl2, hV2, fun y hy => ?_, hM2, hK2⟩
              rw [Bool.or_eq_true, hAV y hy, endsB_iff, ← HR.out]
              constructor
              · rintro ((h | ⟨z, h1, h2⟩) | h)
                · exact .inl h
                · exact .inr ⟨z, Clo.mark_old h1, h2⟩
                · exact .inr ⟨k, Clo.mark_self _ _, h⟩
              · rintro (h | ⟨z, h1, h2⟩)
                · exact .inl (.inl h)
                · rcases Clo.mark_or h1 with h3 | rfl
                  · exact .inl (.inr ⟨z, h3, h2⟩)
                  · exact .inr h2
            case measure =>
              rw [open_flagW hV2, HF.out]
              simp [lenW]
              omega
      · rw [hVk] at hcV
        have hS := hP.skip hVk
        go_wp2_with fail
        go_roundw
        case rel => exact ⟨L', V, Al, gv1, cap1, rfl, by rw [Hm.out], by rw [← Hm.out]; exact ho1, by rw [← Hm.out]; omega, fun x hx => hL x (by simp [hx]), hS, hAl1, hV1, hAV, hM1, hK1⟩
        case measure =>
          rw [open_flagW hV1, HF.out]
          simp [lenW]

end Mt
end Go.Proofs.YtgdnlmaacnnfiaaGreatDoor

