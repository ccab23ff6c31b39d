/-
  Kids of a node as its op has them: kidsTidy, nodeTidy.
-/
import Derived.Test.YtjdohfdkkppnpaaGreatDoorP30
import Derived.Test.YtjdohfdkkppnpaaGreatDoorP05
namespace Go.Proofs.YtjdohfdkkppnpaaGreatDoor
open Go.RowKit
namespace Ty
open Nd

def kindN (t : Data) : Bool := kindB (opOf t) ((kidsOf t).map opOf)
theorem node_eq (t : Data) : nodeB t = (wordN t && kindN t) := rfl

theorem fnRow_new2 (w : World) (o1 : Obj) (fs : List Nat) (T : TypeId) (o : Obj) (ho : o = .cells (fs.map fun f => Value.func (.func f) #[] #[]).toArray T) : FnRow ((w.alloc o1).alloc o) (w.heap.size + 1) fs := by
  have := fnRow_new (w.alloc o1) fs T o ho
  rwa [World.size_alloc] at this

/-- The ways of areJust and areAll over one list. -/
structure Kinds (B : Nat) (W0 : World) (ao : Option Addr) (L cap : Nat) (ops : List Int) : Prop where
  j0 : ∀ w', Below B W0 w' → Calls Tryz.prog 134 #[.slice ao L cap, .slice none 0 0] w' fun e w'' => e = .returned (.bool (justB [] ops)) ∧ Below B W0 w''
  j1 : ∀ w' g, Below B W0 w' → FnRow w' g [81] → Calls Tryz.prog 134 #[.slice ao L cap, .slice (some ⟨g, 0, none⟩) 1 1] w' fun e w'' => e = .returned (.bool (justB [eB] ops)) ∧ Below B W0 w''
  j2 : ∀ w' g, Below B W0 w' → FnRow w' g [81, 81] → Calls Tryz.prog 134 #[.slice ao L cap, .slice (some ⟨g, 0, none⟩) 2 2] w' fun e w'' => e = .returned (.bool (justB [eB, eB] ops)) ∧ Below B W0 w''
  js : ∀ w' g, Below B W0 w' → FnRow w' g [135, 81] → Calls Tryz.prog 134 #[.slice ao L cap, .slice (some ⟨g, 0, none⟩) 2 2] w' fun e w'' => e = .returned (.bool (justB [setB, eB] ops)) ∧ Below B W0 w''
  jb : ∀ w' g, Below B W0 w' → FnRow w' g [81, 78] → Calls Tryz.prog 134 #[.slice ao L cap, .slice (some ⟨g, 0, none⟩) 2 2] w' fun e w'' => e = .returned (.bool (justB [eB, blB] ops)) ∧ Below B W0 w''
  jc : ∀ w' g, Below B W0 w' → FnRow w' g [81, 78, 78] → Calls Tryz.prog 134 #[.slice ao L cap, .slice (some ⟨g, 0, none⟩) 3 3] w' fun e w'' => e = .returned (.bool (justB [eB, blB, blB] ops)) ∧ Below B W0 w''
  ae : ∀ w', Below B W0 w' → Calls Tryz.prog 105 #[.slice ao L cap, .func (.func 81) #[] #[]] w' fun e w'' => e = .returned (.bool (ops.all eB)) ∧ Below B W0 w''
  ast : ∀ w', Below B W0 w' → Calls Tryz.prog 105 #[.slice ao L cap, .func (.func 136) #[] #[]] w' fun e w'' => e = .returned (.bool (ops.all stB)) ∧ Below B W0 w''

theorem kinds_of {w : World} {ks : List Data} {ao : Option Addr} {cap : Nat} (hn : ks.length ≤ 1048577) (hS : Sen w) (hA : ArgsIs w ks ao 0) : Kinds w.heap.size w ao ks.length cap (ks.map opOf) := by
  have J : ∀ {fs : List Nat} {ps : List (Int → Bool)} (_ : fs.length = ps.length) (_ : ∀ (j : Nat) f p, fs[j]? = some f → ps[j]? = some p → KindOk f p) (_ : ps.length ≤ 5) (w' : World) (ao' : Option Addr) (_ : Below w.heap.size w w') (_ : fs.length = 0 ∨ ∃ g, ao' = some ⟨g, 0, none⟩ ∧ FnRow w' g fs),
      Calls Tryz.prog 134 #[.slice ao ks.length cap, .slice ao' fs.length fs.length] w' fun e w'' => e = .returned (.bool (justB ps (ks.map opOf))) ∧ Below w.heap.size w w'' := by
    intro fs ps h1 h2 h3 w' ao' hb hg
    refine (iAreJust h1 h2 h3 hn w' ao cap fs.length ao' hg (hS.later hb) (args_frame hb hA)).mono ?_
    rintro e w'' ⟨rfl, hb2⟩
    exact ⟨rfl, hb.trans (hb2.mono hb.size)⟩
  have A : ∀ {f : Nat} {p : Int → Bool} (_ : KindOk f p) (w' : World) (_ : Below w.heap.size w w'), Calls Tryz.prog 105 #[.slice ao ks.length cap, .func (.func f) #[] #[]] w' fun e w'' => e = .returned (.bool ((ks.map opOf).all p)) ∧ Below w.heap.size w w'' := by
    intro f p hk w' hb
    refine (iAreAll (fun t _ => hk.2 t) hk.1 hn w' ao cap (hS.later hb) (args_frame hb hA)).mono ?_
    rintro e w'' ⟨rfl, hb2⟩
    exact ⟨by rw [List.all_map]; rfl, hb.trans (hb2.mono hb.size)⟩
  have one : ∀ {f1 p1} (_ : KindOk f1 p1) (j : Nat) f p, ([f1] : List Nat)[j]? = some f → ([p1] : List (Int → Bool))[j]? = some p → KindOk f p := by
    intro f1 p1 k1 j f p hf hp
    match j with
    | 0 => simp at hf hp; subst hf hp; exact k1
    | j + 1 => simp at hf
  have two : ∀ {f1 p1 f2 p2} (_ : KindOk f1 p1) (_ : KindOk f2 p2) (j : Nat) f p, ([f1, f2] : List Nat)[j]? = some f → ([p1, p2] : List (Int → Bool))[j]? = some p → KindOk f p := by
    intro f1 p1 f2 p2 k1 k2 j f p hf hp
    match j with
    | 0 => simp at hf hp; subst hf hp; exact k1
    | 1 => simp at hf hp; subst hf hp; exact k2
    | j + 2 => simp at hf
  have three : ∀ {f1 p1 f2 p2 f3 p3} (_ : KindOk f1 p1) (_ : KindOk f2 p2) (_ : KindOk f3 p3) (j : Nat) f p, ([f1, f2, f3] : List Nat)[j]? = some f → ([p1, p2, p3] : List (Int → Bool))[j]? = some p → KindOk f p := by
    intro f1 p1 f2 p2 f3 p3 k1 k2 k3 j f p hf hp
    match j with
    | 0 => simp at hf hp; subst hf hp; exact k1
    | 1 => simp at hf hp; subst hf hp; exact k2
    | 2 => simp at hf hp; subst hf hp; exact k3
    | j + 3 => simp at hf
  exact {
    j0 := fun w' hb => J (fs := []) (ps := []) rfl (fun j f p h => by simp at h) (by simp) w' none hb (.inl rfl)
    j1 := fun w' g hb hr => J rfl (one kE) (by simp) w' _ hb (.inr ⟨g, rfl, hr⟩)
    j2 := fun w' g hb hr => J rfl (two kE kE) (by simp) w' _ hb (.inr ⟨g, rfl, hr⟩)
    js := fun w' g hb hr => J rfl (two kSet kE) (by simp) w' _ hb (.inr ⟨g, rfl, hr⟩)
    jb := fun w' g hb hr => J rfl (two kE kBl) (by simp) w' _ hb (.inr ⟨g, rfl, hr⟩)
    jc := fun w' g hb hr => J rfl (three kE kBl kBl) (by simp) w' _ hb (.inr ⟨g, rfl, hr⟩)
    ae := fun w' hb => A kE w' hb
    ast := fun w' hb => A kSt w' hb }

theorem op_ways (op : Int) : (op < 1 ∨ 35 < op) ∨ (op = 1 ∨ op = 2 ∨ op = 3 ∨ op = 4 ∨ op = 7 ∨ op = 8 ∨ op = 33) ∨ (op = 5 ∨ op = 6 ∨ op = 22 ∨ op = 23 ∨ op = 34 ∨ op = 35) ∨ (op = 9 ∨ op = 10 ∨ op = 11 ∨ op = 12 ∨ op = 13 ∨ op = 14 ∨ op = 15 ∨ op = 16 ∨ op = 17 ∨ op = 18 ∨ op = 19 ∨ op = 20 ∨ op = 21 ∨ op = 24 ∨ op = 25) ∨ (op = 26 ∨ op = 27) ∨ (op = 28 ∨ op = 30) ∨ op = 29 ∨ op = 31 ∨ op = 32 := by omega

set_option maxHeartbeats 4000000 in
set_option maxRecDepth 100000 in
theorem iKidsTidy (t : Data) (hsz : siz t ≤ 1048576) : Tells 120 kindN t := by
  intro w a b c u hS hA
  obtain ⟨ao, cap, rfl, rfl, rfl, rfl, hK, hnd⟩ := arg_open hA
  have hlen := len_siz t
  have hk := kinds_of (cap := cap) (by omega) hS hK
  have hb1 : ∀ o, Below w.heap.size w (w.alloc o) := fun o => (Below.refl _ w).alloc (Nat.le_refl _) _
  have hb2 : ∀ o o', Below w.heap.size w ((w.alloc o).alloc o') := fun o o' => (hb1 o).alloc (by simp) _
  have hk1 : ∀ o, o = Obj.cells #[.int .i64 (opOf t), .int .i64 (numOf t), .string ⟨(txtOf t).toArray⟩, .slice ao (kidsOf t).length cap] 39 → Kinds (w.alloc o).heap.size (w.alloc o) ao (kidsOf t).length cap ((kidsOf t).map opOf) := fun o _ => kinds_of (cap := cap) (by omega) (hS.alloc o) (args_frame (hb1 o) hK)
  have hb3 : ∀ o o', Below (w.alloc o).heap.size (w.alloc o) ((w.alloc o).alloc o') := fun o o' => (Below.refl _ _).alloc (Nat.le_refl _) _
  have hcell : ∀ o w', o = Obj.cells #[.int .i64 (opOf t), .int .i64 (numOf t), .string ⟨(txtOf t).toArray⟩, .slice ao (kidsOf t).length cap] 39 → Below (w.alloc o).heap.size (w.alloc o) w' → w'.cell? ⟨w.heap.size, 0, none⟩ = some (.int .i64 (opOf t)) ∧ w'.cell? ⟨w.heap.size, 1, none⟩ = some (.int .i64 (numOf t)) ∧ w'.cell? ⟨w.heap.size, 2, none⟩ = some (.string ⟨(txtOf t).toArray⟩) ∧ w'.cell? ⟨w.heap.size, 3, none⟩ = some (.slice ao (kidsOf t).length cap) := fun o w' ho hb => by
    have hV : Var (w.alloc o) w.heap.size (.int .i64 (opOf t)) (.int .i64 (numOf t)) (.string ⟨(txtOf t).toArray⟩) (.slice ao (kidsOf t).length cap) := by rw [ho]; exact heap_new _ _
    exact (hV.kept (hb.block _ hV.lt)).cell
  have H : Hid (kindN t = kindB (opOf t) ((kidsOf t).map opOf)) := rfl
  clear hA hS hnd hsz hlen hK
  show Calls _ _ _ _ fun e w' => e = .returned (.bool (kindN t)) ∧ Below w.heap.size w w'
  generalize kindN t = E at *
  generalize opOf t = op at *
  generalize numOf t = n at *
  generalize txtOf t = s at *
  generalize (kidsOf t).map opOf = ops at *
  generalize (kidsOf t).length = L at *
  rcases op_ways op with h | h | h | h | h | h | h | h | h
  · have HE : Hid (E = false) := by show _ = _; rw [H.out]; unfold kindB; repeat rw [if_neg (by omega)]
    have hne : ∀ k : Int, 1 ≤ k → k ≤ 35 → (op == k) = false := fun k h1 h2 => beq_eq_false_iff_ne.2 (by omega)
    have n1 := hne 1 (by omega) (by omega)
    have n2 := hne 2 (by omega) (by omega)
    have n3 := hne 3 (by omega) (by omega)
    have n4 := hne 4 (by omega) (by omega)
    have n5 := hne 5 (by omega) (by omega)
    have n6 := hne 6 (by omega) (by omega)
    have n7 := hne 7 (by omega) (by omega)
    have n8 := hne 8 (by omega) (by omega)
    have n9 := hne 9 (by omega) (by omega)
    have n10 := hne 10 (by omega) (by omega)
    have n11 := hne 11 (by omega) (by omega)
    have n12 := hne 12 (by omega) (by omega)
    have n13 := hne 13 (by omega) (by omega)
    have n14 := hne 14 (by omega) (by omega)
    have n15 := hne 15 (by omega) (by omega)
    have n16 := hne 16 (by omega) (by omega)
    have n17 := hne 17 (by omega) (by omega)
    have n18 := hne 18 (by omega) (by omega)
    have n19 := hne 19 (by omega) (by omega)
    have n20 := hne 20 (by omega) (by omega)
    have n21 := hne 21 (by omega) (by omega)
    have n22 := hne 22 (by omega) (by omega)
    have n23 := hne 23 (by omega) (by omega)
    have n24 := hne 24 (by omega) (by omega)
    have n25 := hne 25 (by omega) (by omega)
    have n26 := hne 26 (by omega) (by omega)
    have n27 := hne 27 (by omega) (by omega)
    have n28 := hne 28 (by omega) (by omega)
    have n29 := hne 29 (by omega) (by omega)
    have n30 := hne 30 (by omega) (by omega)
    have n31 := hne 31 (by omega) (by omega)
    have n32 := hne 32 (by omega) (by omega)
    have n33 := hne 33 (by omega) (by omega)
    have n34 := hne 34 (by omega) (by omega)
    have n35 := hne 35 (by omega) (by omega)
    clear H hne h
    go_enter Tryz.func120, Tryz.ntmps120
    go_wp2_with fail
    go_ret
    exact ⟨by rw [HE.out]; rfl, hb1 _⟩
  · have HE : Hid (E = justB [] ops) := by show _ = _; rw [H.out]; unfold kindB; rw [if_pos h]
    clear H
    rcases h with rfl | rfl | rfl | rfl | rfl | rfl | rfl
    all_goals
      go_enter Tryz.func120, Tryz.ntmps120
      go_wp2_with (go_at_call 134; refine (hk.j0 _ (hb1 _)).mono ?_; rintro e w2 ⟨rfl, hbb⟩)
      go_ret
      exact ⟨by rw [HE.out]; rfl, hbb⟩
  · have HE : Hid (E = justB [eB] ops) := by show _ = _; rw [H.out]; unfold kindB; rw [if_neg (by omega), if_pos h]
    clear H
    rcases h with rfl | rfl | rfl | rfl | rfl | rfl
    all_goals
      go_enter Tryz.func120, Tryz.ntmps120
      go_wp2_with (go_at_call 134; refine (hk.j1 _ _ (hb2 _ _) (fnRow_new2 _ _ _ _ _ rfl)).mono ?_; rintro e w2 ⟨rfl, hbb⟩)
      go_ret
      exact ⟨by rw [HE.out]; rfl, hbb⟩
  · have HE : Hid (E = justB [eB, eB] ops) := by show _ = _; rw [H.out]; unfold kindB; rw [if_neg (by omega)]; rw [if_neg (by omega)]; rw [if_pos (by omega)]
    clear H
    rcases h with rfl | rfl | rfl | rfl | rfl | rfl | rfl | rfl | rfl | rfl | rfl | rfl | rfl | rfl | rfl
    all_goals
      go_enter Tryz.func120, Tryz.ntmps120
      go_wp2_with (go_at_call 134; refine (hk.j2 _ _ (hb2 _ _) (fnRow_new2 _ _ _ _ _ rfl)).mono ?_; rintro e w2 ⟨rfl, hbb⟩)
      go_ret
      exact ⟨by rw [HE.out]; rfl, hbb⟩
  · have HE : Hid (E = justB [setB, eB] ops) := by show _ = _; rw [H.out]; unfold kindB; rw [if_neg (by omega)]; rw [if_neg (by omega)]; rw [if_neg (by omega)]; rw [if_pos (by omega)]
    clear H
    rcases h with rfl | rfl
    all_goals
      go_enter Tryz.func120, Tryz.ntmps120
      go_wp2_with (go_at_call 134; refine (hk.js _ _ (hb2 _ _) (fnRow_new2 _ _ _ _ _ rfl)).mono ?_; rintro e w2 ⟨rfl, hbb⟩)
      go_ret
      exact ⟨by rw [HE.out]; rfl, hbb⟩
  · have HE : Hid (E = ops.all eB) := by show _ = _; rw [H.out]; unfold kindB; rw [if_neg (by omega)]; rw [if_neg (by omega)]; rw [if_neg (by omega)]; rw [if_neg (by omega)]; rw [if_pos (by omega)]
    clear H
    rcases h with rfl | rfl
    all_goals
      go_enter Tryz.func120, Tryz.ntmps120
      go_wp2_with (go_at_call 105; refine (hk.ae _ (hb1 _)).mono ?_; rintro e w2 ⟨rfl, hbb⟩)
      go_ret
      exact ⟨by rw [HE.out]; rfl, hbb⟩
  · have HE : Hid (E = ops.all stB) := by show _ = _; rw [H.out]; unfold kindB; rw [if_neg (by omega)]; rw [if_neg (by omega)]; rw [if_neg (by omega)]; rw [if_neg (by omega)]; rw [if_neg (by omega)]; rw [if_pos (by omega)]
    clear H
    rcases h with rfl
    all_goals
      go_enter Tryz.func120, Tryz.ntmps120
      go_wp2_with (go_at_call 105; refine (hk.ast _ (hb1 _)).mono ?_; rintro e w2 ⟨rfl, hbb⟩)
      go_ret
      exact ⟨by rw [HE.out]; rfl, hbb⟩
  · have HE : Hid (E = (justB [eB, blB] ops || justB [eB, blB, blB] ops)) := by show _ = _; rw [H.out]; unfold kindB; rw [if_neg (by omega)]; rw [if_neg (by omega)]; rw [if_neg (by omega)]; rw [if_neg (by omega)]; rw [if_neg (by omega)]; rw [if_neg (by omega)]; rw [if_pos (by omega)]
    clear H
    subst h
    generalize hB : justB [eB, blB] ops = B at *
    have JB := hk1
    cases B
    · go_enter Tryz.func120, Tryz.ntmps120
      go_wp2_with (first
        | (go_at_call 134; refine ((JB _ rfl).jc _ _ (Below.alloc hbb hbb.size _) (fnRow_new _ _ _ _ rfl)).mono ?_; rintro e w3 ⟨rfl, hbc⟩)
        | (go_at_call 134; refine ((JB _ rfl).jb _ _ (hb3 _ _) (fnRow_new2 _ _ _ _ _ rfl)).mono ?_; rintro e w2 ⟨rfl, hbb⟩; rw [hB]; obtain ⟨x0, x1, x2, x3⟩ := hcell _ _ rfl hbb))
      go_ret
      exact ⟨by rw [HE.out]; rfl, (hb1 _).trans (hbc.mono (hb1 _).size)⟩
    · go_enter Tryz.func120, Tryz.ntmps120
      go_wp2_with (first
        | (go_at_call 134; refine ((JB _ rfl).jb _ _ (hb3 _ _) (fnRow_new2 _ _ _ _ _ rfl)).mono ?_; rintro e w2 ⟨rfl, hbb⟩; rw [hB]))
      go_ret
      exact ⟨by rw [HE.out]; rfl, (hb1 _).trans (hbb.mono (hb1 _).size)⟩
  · have HE : Hid (E = justB [eB, blB] ops) := by show _ = _; rw [H.out]; unfold kindB; rw [if_neg (by omega)]; rw [if_neg (by omega)]; rw [if_neg (by omega)]; rw [if_neg (by omega)]; rw [if_neg (by omega)]; rw [if_neg (by omega)]; rw [if_neg (by omega)]; rw [if_pos (by omega)]
    clear H
    rcases h with rfl
    all_goals
      go_enter Tryz.func120, Tryz.ntmps120
      go_wp2_with (go_at_call 134; refine (hk.jb _ _ (hb2 _ _) (fnRow_new2 _ _ _ _ _ rfl)).mono ?_; rintro e w2 ⟨rfl, hbb⟩)
      go_ret
      exact ⟨by rw [HE.out]; rfl, hbb⟩

theorem iNodeTidy (t : Data) (hsz : siz t ≤ 1048576) : Tells 106 nodeB t := by
  intro w a b c u hS hA
  have c1 := fun o => iWordTidy t hsz (w.alloc o) a b c u (hS.alloc o) (arg_frame ((Below.refl _ w).alloc (Nat.le_refl _) _) _ _ hA)
  have c2 := fun w' hb => iKidsTidy t hsz w' a b c u (hS.later hb) (arg_frame hb _ _ hA)
  have hb1 : ∀ o, Below w.heap.size w (w.alloc o) := fun o => (Below.refl _ w).alloc (Nat.le_refl _) _
  have hcell : ∀ o w', o = Obj.cells #[a, b, c, u] 39 → Below (w.alloc o).heap.size (w.alloc o) w' → w'.cell? ⟨w.heap.size, 0, none⟩ = some a ∧ w'.cell? ⟨w.heap.size, 1, none⟩ = some b ∧ w'.cell? ⟨w.heap.size, 2, none⟩ = some c ∧ w'.cell? ⟨w.heap.size, 3, none⟩ = some u := fun o w' ho hb => by
    have hV : Var (w.alloc o) w.heap.size a b c u := by rw [ho]; exact heap_new _ _
    exact (hV.kept (hb.block _ hV.lt)).cell
  have H : Hid (nodeB t = (wordN t && kindN t)) := node_eq t
  obtain ⟨ao, cap, rfl, rfl, rfl, rfl, -, -⟩ := arg_open hA
  clear hA hS hsz
  generalize nodeB t = E at *
  generalize wordN t = E1 at *
  generalize kindN t = E2 at *
  generalize opOf t = op at *
  generalize numOf t = n at *
  generalize txtOf t = s at *
  generalize (kidsOf t).length = L at *
  cases E1
  · go_enter Tryz.func106, Tryz.ntmps106
    go_wp2_with (go_at_call 119; refine (c1 _).mono ?_; rintro e w2 ⟨rfl, hbb⟩)
    go_ret
    exact ⟨by rw [H.out]; rfl, (hb1 _).trans (hbb.mono (hb1 _).size)⟩
  · go_enter Tryz.func106, Tryz.ntmps106
    go_wp2_with (first
      | (go_at_call 119; refine (c1 _).mono ?_; rintro e w2 ⟨rfl, hbb⟩; obtain ⟨x0, x1, x2, x3⟩ := hcell _ _ rfl hbb; have hbw := (hb1 _).trans (hbb.mono (hb1 _).size))
      | (go_at_call 120; refine (c2 _ hbw).mono ?_; rintro e w3 ⟨rfl, hbc⟩))
    go_ret
    exact ⟨by rw [H.out]; rfl, hbw.trans (hbc.mono hbw.size)⟩

end Ty
end Go.Proofs.YtjdohfdkkppnpaaGreatDoor

