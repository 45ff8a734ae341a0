/-
  The program's rows: how many nodes a row has, and the row of the parts.
-/
import Derived.Test.YtplchhahjmoodaaDoorZ23
import Derived.Test.YtplchhahjmoodaaDoorZ07
namespace Go.Proofs.YtplchhahjmoodaaDoor
open Go Go.RowKit Go.ChangeAt Go.ChangeShapes Go.WideShapes

theorem implCountBoth (a b : Nat) (w : World) (h : a + b ≤ 4611686018427387904) : Calls Tryd.prog 107 #[.int .i64 a, .int .i64 b] w fun e w' => e = .returned (.int .i64 ((a + b : Nat) : Int)) ∧ w' = w := by
  have h1 : ¬ (9223372036854775807 - (b : Int) < a) := by omega
  go_enter Tryd.func107, Tryd.ntmps107
  go_wp2_with fail
  go_ret
  exact ⟨by go_num, rfl⟩

abbrev one64 : Value := .int .i64 1
theorem implCountOne (a : Nat) (w : World) (h : a ≤ 1099511627776) : Calls Tryd.prog 107 #[.int .i64 a, .int .i64 1] w fun e w' => e = .returned (.int .i64 ((a + 1 : Nat) : Int)) ∧ w' = w := implCountBoth a 1 w (by omega)
theorem implCountNew (w : World) : Calls Tryd.prog 107 #[.int .i64 0, .int .i64 1] w fun e w' => e = .returned (.int .i64 1) ∧ w' = w := implCountBoth 0 1 w (by omega)

/-- A list without repeats within another one: the rest of it. -/
theorem sub_perm {α : Type} : ∀ {l m : List α}, l.Nodup → (∀ x ∈ l, x ∈ m) → ∃ rest, m.Perm (l ++ rest)
  | [], m, _, _ => ⟨m, List.Perm.refl _⟩
  | x :: l, m, h, hs => by
    obtain ⟨h1, h2⟩ := List.nodup_cons.1 h
    obtain ⟨s, t, rfl⟩ := List.append_of_mem (hs x (by simp))
    obtain ⟨rest, hr⟩ := sub_perm (m := s ++ t) h2 fun y hy => by
      have hy' := hs y (by simp [hy])
      rcases List.mem_append.1 hy' with h' | h'
      · exact List.mem_append_left _ h'
      · rcases List.mem_cons.1 h' with e | h'
        · exact absurd (e ▸ hy) h1
        · exact List.mem_append_right _ h'
    exact ⟨rest, List.perm_middle.trans (by rw [List.cons_append]; exact hr.cons x)⟩
theorem perm_of_all {α : Type} {l m : List α} (h : l.Nodup) (hm : m.Nodup) (hs : ∀ x ∈ l, x ∈ m) (ha : ∀ x ∈ m, x ∈ l) : m.Perm l := by
  obtain ⟨rest, hr⟩ := sub_perm h hs
  have h1 := nodup_le hm ha
  have h2 := hr.length_eq
  rw [List.length_append] at h2
  have : rest = [] := List.eq_nil_of_length_eq_zero (by omega)
  rw [this, List.append_nil] at hr
  exact hr

/-! ### A row of nodes, and that of their parts -/
def pls (R : List Loc) : List Addr := R.flatMap fun x => x.2.places
def tot (R : List Loc) : Nat := Fm.sizes (R.map fun x => x.2.er)
def dep (R : List Loc) : Nat := Fm.depths (R.map fun x => x.2.er)
theorem kids_er (x : Loc) : (kids x).map (fun y => y.2.er) = x.2.args.map Ft.er := by
  rw [← kids_snd x, List.map_map]
  rfl
theorem pls_kids : ∀ R : List Loc, (pls R).Perm ((R.flatMap kids).map Prod.fst ++ pls (R.flatMap kids))
  | [] => List.Perm.refl _
  | x :: R => by
    have ih := pls_kids R
    have hx : x.2.places = (kids x).map Prod.fst ++ pls (kids x) := by
      rw [Ft.places_eq, kids_fst, pls, ← kids_snd x, List.flatMap_map]
    have e1 : pls (x :: R) = x.2.places ++ pls R := rfl
    have e2 : pls (kids x ++ R.flatMap kids) = pls (kids x) ++ pls (R.flatMap kids) := by simp [pls]
    rw [e1, List.flatMap_cons, e2, List.map_append, hx]
    refine (List.Perm.append_left _ ih).trans ?_
    rw [List.append_assoc, List.append_assoc]
    refine List.Perm.append_left _ ?_
    rw [← List.append_assoc, ← List.append_assoc]
    exact List.Perm.append_right _ List.perm_append_comm
theorem tot_kids : ∀ R : List Loc, tot R = R.length + tot (R.flatMap kids)
  | [] => rfl
  | x :: R => by
    have ih := tot_kids R
    have e1 : tot (x :: R) = x.2.er.size + tot R := rfl
    have e2 : tot (kids x ++ R.flatMap kids) = tot (kids x) + tot (R.flatMap kids) := by rw [tot, List.map_append, Fm.sizes_append]; rfl
    have e3 : x.2.er.size = tot (kids x) + 1 := by rw [Ft.size_er, tot, kids_er]
    rw [e1, List.flatMap_cons, e2, e3, List.length_cons]
    omega
theorem dep_kids : ∀ R : List Loc, R ≠ [] → dep R = dep (R.flatMap kids) + 1
  | [], h => absurd rfl h
  | x :: R, _ => by
    have e1 : dep (x :: R) = max x.2.er.depth (dep R) := rfl
    have e2 : dep (kids x ++ R.flatMap kids) = max (dep (kids x)) (dep (R.flatMap kids)) := by rw [dep, List.map_append, Fm.depths_append]; rfl
    have e3 : x.2.er.depth = dep (kids x) + 1 := by rw [Ft.depth_er, dep, kids_er]
    rw [e1, List.flatMap_cons, e2, e3]
    cases R with
    | nil => simp [dep, Fm.depths]
    | cons y R =>
      have ih := dep_kids (y :: R) (by simp)
      omega
theorem sizes_perm {a b : List Fm} (h : a.Perm b) : Fm.sizes a = Fm.sizes b := by
  induction h with
  | nil => rfl
  | cons x _ ih => simp only [Fm.sizes, ih]
  | swap x y l => simp only [Fm.sizes]; omega
  | trans _ _ h1 h2 => exact h1.trans h2
theorem depths_perm {a b : List Fm} (h : a.Perm b) : Fm.depths a = Fm.depths b := by
  induction h with
  | nil => rfl
  | cons x _ ih => simp only [Fm.depths, ih]
  | swap x y l => simp only [Fm.depths]; omega
  | trans _ _ h1 h2 => exact h1.trans h2
theorem tot_perm {R S : List Loc} (h : R.Perm S) : tot R = tot S := sizes_perm (h.map _)
theorem dep_perm {R S : List Loc} (h : R.Perm S) : dep R = dep S := depths_perm (h.map _)
/-- A row of the nodes of one depth: all different, and so are all below them. -/
structure Lv (U R : List Loc) : Prop where
  sub : ∀ x ∈ R, x ∈ U
  nd : (R.map Prod.fst ++ pls R).Nodup
theorem Lv.perm {U R S : List Loc} (h : Lv U R) (p : R.Perm S) : Lv U S :=
  ⟨fun x hx => h.sub x (p.mem_iff.2 hx), ((p.map Prod.fst).append (p.flatMap_right _)).nodup_iff.1 h.nd⟩
theorem Lv.fst {U R : List Loc} (h : Lv U R) : (R.map Prod.fst).Nodup := (List.nodup_append.1 h.nd).1
theorem Lv.next {U R : List Loc} (h : Lv U R) (hc : ∀ x ∈ U, ∀ y ∈ kids x, y ∈ U) : Lv U (R.flatMap kids) := by
  refine ⟨fun y hy => ?_, ?_⟩
  · obtain ⟨x, hx, hy⟩ := List.mem_flatMap.1 hy
    exact hc x (h.sub x hx) y hy
  · exact (pls_kids R).nodup_iff.1 (List.nodup_append.1 h.nd).2.1
/-- Of a row, some nodes have come, and one more comes: its parts are new. -/
theorem Lv.part {U R ps : List Loc} {x : Loc} (h : Lv U R) (hc : ∀ x ∈ U, ∀ y ∈ kids x, y ∈ U) (hnd : (ps ++ [x]).Nodup) (hs : ∀ y ∈ ps ++ [x], y ∈ R) : ((ps.flatMap kids ++ kids x).map Prod.fst).Nodup := by
  obtain ⟨rest, hr⟩ := sub_perm hnd hs
  have h1 := (h.next hc).fst
  have h2 := ((hr.flatMap_right kids).map Prod.fst).nodup_iff.1 h1
  rw [List.flatMap_append, List.map_append, List.flatMap_append] at h2
  have h3 := (List.nodup_append.1 h2).1
  simpa using h3
theorem ptr_of {U : List Loc} (hnd : (U.map Prod.fst).Nodup) {x y : Loc} (hx : x ∈ U) (hy : y ∈ U) (h : ptrV x = ptrV y) : x = y := by
  injection h with h
  injection h with h
  exact map_inj_on hnd hx hy h
theorem ptrs_back {R : List Loc} : ∀ {ps : List Value}, (∀ p ∈ ps, p ∈ ptrs R) → ∃ qs : List Loc, ptrs qs = ps ∧ ∀ q ∈ qs, q ∈ R
  | [], _ => ⟨[], rfl, by simp⟩
  | p :: ps, h => by
    obtain ⟨q, hq, e⟩ := List.mem_map.1 (h p (by simp))
    obtain ⟨qs, e2, h2⟩ := ptrs_back (ps := ps) fun x hx => h x (by simp [hx])
    exact ⟨q :: qs, by rw [← e, ← e2]; rfl, fun x hx => by
      rcases List.mem_cons.1 hx with rfl | hx
      · exact hq
      · exact h2 x hx⟩

set_option maxHeartbeats 800000 in
theorem implWidth {ok : Value → Prop} (b : Nat) (ks : List Value) (w : World) (h : PM w b ok ks one64) (hlen : ks.length ≤ 1099511627776) : Calls Tryd.prog 120 #[.map (some b)] w (GaveB (.int .i64 ks.length) w) := by
  have hb := h.lt
  have hnd := h.nodup
  obtain ⟨W0, hrange, hpr, hbW, hsW⟩ := h.range (P := Tryd.prog) Tryd.underlying157
  have HPR := Lib.hid hpr
  have HND := Lib.hid hnd
  clear h hpr hnd
  go_enter Tryd.func120, Tryd.ntmps120
  go_wp2_with fail
  go_loopw [3] (fun n wr => ∃ ps : List Value, PRange wr b w.heap.size ok ks one64 ps ∧ n = .int .i64 (ps.length : Int) ∧ Below w.heap.size w wr) (fun n _ => ks.length - (intOf n).toNat)
  case atStart => exact ⟨[], HPR.out, rfl, hbW⟩
  case round =>
    obtain ⟨ps, hpr, rfl, hbw⟩ := hrel
    have hle := nodup_le hpr.nodup.1 hpr.nodup.2
    rcases hpr.next (P := Tryd.prog) (by omega) with ⟨hall, hrun⟩ | ⟨y, w1, hy, hny, hrun, hpr1, ht1, hent⟩
    · have HL := Lib.hid (show ps.length = ks.length by
        have := nodup_le HND.out hall
        omega)
      clear hall hpr hle
      go_wp2_with fail
      go_ret
      exact ⟨congrArg (fun n : Nat => Ending.returned (.int .i64 (n : Int))) HL.out, hbw⟩
    · have hle1 := nodup_le hpr1.nodup.1 hpr1.nodup.2
      rw [List.length_append, List.length_singleton] at hle1
      have HPR1 := Lib.hid hpr1
      have hb1 : Below w.heap.size w w1 := ht1.below hbw (Nat.le_refl _) hbw.size
      have hent1 := hent w1 rfl rfl
      clear hpr hpr1 hle hy hny hent
      go_wp2_with fail
      refine (implCountOne ps.length _ (by omega)).mono ?_
      rintro e w2 ⟨rfl, rfl⟩
      go_wp2_with fail
      go_roundw
      case rel => exact ⟨ps ++ [y], HPR1.out, by rw [List.length_append]; rfl, hb1⟩
      case measure => simp [intOf]; omega
end Go.Proofs.YtplchhahjmoodaaDoor
