/-
  Several texts of one proof in one file, in the order in which they build.
-/
import Derived.Laws.ResultCell
import Derived.Test.YtplchhahjmoodaaGreatDoorZ13
import Derived.Test.YtplchhahjmoodaaGreatDoorZ21
import Derived.Test.YtplchhahjmoodaaGreatDoorZ07
import Derived.Test.YtplchhahjmoodaaGreatDoorZ14
/-
  The law's own copy of a formula: a new tree with the same contents.
-/
namespace Go.Proofs.YtplchhahjmoodaaGreatDoor
open Go Go.RowKit Go.ChangeAt

theorem fmInfo : (Tryz.prog.info? 27).map (fun i => (i.zero, i.size, i.bytes)) = some (some (.agg #[.int .i64 0, .int .i64 0, .int .i64 0, .int .i64 0, .slice none 0 0]), 5, 56) := by kernel_rfl

/-- A new tree that holds the formula; nothing old has turned. -/
def CopyTree (x : Ft) (w : World) (e : Ending) (w' : World) : Prop :=
  ∃ y : Ft, e = .returned y.val ∧ y.er = x.er ∧ y.Own w' w.heap.size w'.heap.size ∧ Below w.heap.size w w'
def CopyRow (ts : List Ft) (w : World) (e : Ending) (w' : World) : Prop :=
  ∃ ys : List Ft, e = .returned (.slice (some ⟨w.heap.size, 0, none⟩) ts.length ts.length) ∧ ys.map Ft.er = ts.map Ft.er ∧
    w'.ownsRow w.heap.size 27 5 (.slice (some ⟨w.heap.size, 0, none⟩) ts.length ts.length) ts.length (fmVals ys) ∧ Ft.Owns w' (w.heap.size + 1) w'.heap.size ys ∧ Below w.heap.size w w'

/-- Five cells in a row turned at once. -/
def setNode (xs : List Value) (o : Nat) (x : Ft) : List Value := ((((xs.set o (.int .i64 x.kd)).set (o + 1) (.int .i64 x.k)).set (o + 2) (.int .i64 x.u)).set (o + 3) (.int .i64 x.v)).set (o + 4) (.slice x.a x.args.length x.cap)
theorem setNode_length (xs : List Value) (o : Nat) (x : Ft) : (setNode xs o x).length = xs.length := by simp [setNode]
theorem setNode_take (xs : List Value) (o : Nat) (x : Ft) (h : o + 5 ≤ xs.length) : (setNode xs o x).take (o + 5) = xs.take o ++ x.cells := by
  apply List.ext_getElem?
  intro j
  rcases Nat.lt_or_ge j o with hj | hj
  · rw [List.getElem?_append_left (by simp; omega), List.getElem?_take_of_lt (by omega), List.getElem?_take_of_lt hj]
    simp only [setNode, List.getElem?_set]
    rw [if_neg (by omega), if_neg (by omega), if_neg (by omega), if_neg (by omega), if_neg (by omega)]
  · rw [List.getElem?_append_right (by simp; omega), List.length_take, Nat.min_eq_left (by omega)]
    rcases Nat.lt_or_ge j (o + 5) with hj5 | hj5
    · obtain ⟨i, rfl, hi⟩ : ∃ i, j = o + i ∧ i < 5 := ⟨j - o, by omega, by omega⟩
      rw [List.getElem?_take_of_lt hj5, Nat.add_sub_cancel_left]
      simp only [setNode, List.getElem?_set, List.length_set]
      match i, hi with
      | 0, _ => simp [Ft.cells]; omega
      | 1, _ => simp [Ft.cells]; omega
      | 2, _ => simp [Ft.cells]; omega
      | 3, _ => simp [Ft.cells]; omega
      | 4, _ => simp [Ft.cells]; omega
    · rw [List.getElem?_eq_none (by rw [List.length_take]; omega), List.getElem?_eq_none (by rw [Ft.cells_length]; omega)]

theorem ers_next (ts ys : List Ft) (k : Nat) (h : k < ts.length) (y : Ft) (hy : ys.map Ft.er = (ts.take k).map Ft.er) (he : y.er = (ts[k]).er) : (ys ++ [y]).map Ft.er = (ts.take (k + 1)).map Ft.er := by
  rw [take_next ts k h, List.map_append, List.map_append, hy, List.map_cons, List.map_nil, he]
  rfl

end Go.Proofs.YtplchhahjmoodaaGreatDoor
/-
  The program's rows: how many nodes a row has, and the row of the parts.
-/
namespace Go.Proofs.YtplchhahjmoodaaGreatDoor
open Go Go.RowKit Go.ChangeAt Go.ChangeShapes Go.WideShapes

theorem implCountBoth (a b : Nat) (w : World) (h : a + b ≤ 4611686018427387904) : Calls Tryz.prog 113 #[.int .i64 a, .int .i64 b] w fun e w' => e = .returned (.int .i64 ((a + b : Nat) : Int)) ∧ w' = w := by
  have h1 : ¬ (9223372036854775807 - (b : Int) < a) := by omega
  go_enter Tryz.func113, Tryz.ntmps113
  go_wp2_with fail
  go_ret
  exact ⟨by go_num, rfl⟩

abbrev one64 : Value := .int .i64 1
theorem implCountOne (a : Nat) (w : World) (h : a ≤ 1099511627776) : Calls Tryz.prog 113 #[.int .i64 a, .int .i64 1] w fun e w' => e = .returned (.int .i64 ((a + 1 : Nat) : Int)) ∧ w' = w := implCountBoth a 1 w (by omega)
theorem implCountNew (w : World) : Calls Tryz.prog 113 #[.int .i64 0, .int .i64 1] w fun e w' => e = .returned (.int .i64 1) ∧ w' = w := implCountBoth 0 1 w (by omega)

/-- A list without repeats within another one: the rest of it. -/
theorem sub_perm {α : Type} : ∀ {l m : List α}, l.Nodup → (∀ x ∈ l, x ∈ m) → ∃ rest, m.Perm (l ++ rest)
  | [], m, _, _ => ⟨m, List.Perm.refl _⟩
  | x :: l, m, h, hs => by
    obtain ⟨h1, h2⟩ := List.nodup_cons.1 h
    obtain ⟨s, t, rfl⟩ := List.append_of_mem (hs x (by simp))
    obtain ⟨rest, hr⟩ := sub_perm (m := s ++ t) h2 fun y hy => by
      have hy' := hs y (by simp [hy])
      rcases List.mem_append.1 hy' with h' | h'
      · exact List.mem_append_left _ h'
      · rcases List.mem_cons.1 h' with e | h'
        · exact absurd (e ▸ hy) h1
        · exact List.mem_append_right _ h'
    exact ⟨rest, List.perm_middle.trans (by rw [List.cons_append]; exact hr.cons x)⟩
theorem perm_of_all {α : Type} {l m : List α} (h : l.Nodup) (hm : m.Nodup) (hs : ∀ x ∈ l, x ∈ m) (ha : ∀ x ∈ m, x ∈ l) : m.Perm l := by
  obtain ⟨rest, hr⟩ := sub_perm h hs
  have h1 := nodup_le hm ha
  have h2 := hr.length_eq
  rw [List.length_append] at h2
  have : rest = [] := List.eq_nil_of_length_eq_zero (by omega)
  rw [this, List.append_nil] at hr
  exact hr

/-! ### A row of nodes, and that of their parts -/
def pls (R : List Loc) : List Addr := R.flatMap fun x => x.2.places
def tot (R : List Loc) : Nat := Fm.sizes (R.map fun x => x.2.er)
def dep (R : List Loc) : Nat := Fm.depths (R.map fun x => x.2.er)
theorem kids_er (x : Loc) : (kids x).map (fun y => y.2.er) = x.2.args.map Ft.er := by
  rw [← kids_snd x, List.map_map]
  rfl
theorem pls_kids : ∀ R : List Loc, (pls R).Perm ((R.flatMap kids).map Prod.fst ++ pls (R.flatMap kids))
  | [] => List.Perm.refl _
  | x :: R => by
    have ih := pls_kids R
    have hx : x.2.places = (kids x).map Prod.fst ++ pls (kids x) := by
      rw [Ft.places_eq, kids_fst, pls, ← kids_snd x, List.flatMap_map]
    have e1 : pls (x :: R) = x.2.places ++ pls R := rfl
    have e2 : pls (kids x ++ R.flatMap kids) = pls (kids x) ++ pls (R.flatMap kids) := by simp [pls]
    rw [e1, List.flatMap_cons, e2, List.map_append, hx]
    refine (List.Perm.append_left _ ih).trans ?_
    rw [List.append_assoc, List.append_assoc]
    refine List.Perm.append_left _ ?_
    rw [← List.append_assoc, ← List.append_assoc]
    exact List.Perm.append_right _ List.perm_append_comm
theorem tot_kids : ∀ R : List Loc, tot R = R.length + tot (R.flatMap kids)
  | [] => rfl
  | x :: R => by
    have ih := tot_kids R
    have e1 : tot (x :: R) = x.2.er.size + tot R := rfl
    have e2 : tot (kids x ++ R.flatMap kids) = tot (kids x) + tot (R.flatMap kids) := by rw [tot, List.map_append, Fm.sizes_append]; rfl
    have e3 : x.2.er.size = tot (kids x) + 1 := by rw [Ft.size_er, tot, kids_er]
    rw [e1, List.flatMap_cons, e2, e3, List.length_cons]
    omega
theorem dep_kids : ∀ R : List Loc, R ≠ [] → dep R = dep (R.flatMap kids) + 1
  | [], h => absurd rfl h
  | x :: R, _ => by
    have e1 : dep (x :: R) = max x.2.er.depth (dep R) := rfl
    have e2 : dep (kids x ++ R.flatMap kids) = max (dep (kids x)) (dep (R.flatMap kids)) := by rw [dep, List.map_append, Fm.depths_append]; rfl
    have e3 : x.2.er.depth = dep (kids x) + 1 := by rw [Ft.depth_er, dep, kids_er]
    rw [e1, List.flatMap_cons, e2, e3]
    cases R with
    | nil => simp [dep, Fm.depths]
    | cons y R =>
      have ih := dep_kids (y :: R) (by simp)
      omega
theorem sizes_perm {a b : List Fm} (h : a.Perm b) : Fm.sizes a = Fm.sizes b := by
  induction h with
  | nil => rfl
  | cons x _ ih => simp only [Fm.sizes, ih]
  | swap x y l => simp only [Fm.sizes]; omega
  | trans _ _ h1 h2 => exact h1.trans h2
theorem depths_perm {a b : List Fm} (h : a.Perm b) : Fm.depths a = Fm.depths b := by
  induction h with
  | nil => rfl
  | cons x _ ih => simp only [Fm.depths, ih]
  | swap x y l => simp only [Fm.depths]; omega
  | trans _ _ h1 h2 => exact h1.trans h2
theorem tot_perm {R S : List Loc} (h : R.Perm S) : tot R = tot S := sizes_perm (h.map _)
theorem dep_perm {R S : List Loc} (h : R.Perm S) : dep R = dep S := depths_perm (h.map _)
/-- A row of the nodes of one depth: all different, and so are all below them. -/
structure Lv (U R : List Loc) : Prop where
  sub : ∀ x ∈ R, x ∈ U
  nd : (R.map Prod.fst ++ pls R).Nodup
theorem Lv.perm {U R S : List Loc} (h : Lv U R) (p : R.Perm S) : Lv U S :=
  ⟨fun x hx => h.sub x (p.mem_iff.2 hx), ((p.map Prod.fst).append (p.flatMap_right _)).nodup_iff.1 h.nd⟩
theorem Lv.fst {U R : List Loc} (h : Lv U R) : (R.map Prod.fst).Nodup := (List.nodup_append.1 h.nd).1
theorem Lv.next {U R : List Loc} (h : Lv U R) (hc : ∀ x ∈ U, ∀ y ∈ kids x, y ∈ U) : Lv U (R.flatMap kids) := by
  refine ⟨fun y hy => ?_, ?_⟩
  · obtain ⟨x, hx, hy⟩ := List.mem_flatMap.1 hy
    exact hc x (h.sub x hx) y hy
  · exact (pls_kids R).nodup_iff.1 (List.nodup_append.1 h.nd).2.1
/-- Of a row, some nodes have come, and one more comes: its parts are new. -/
theorem Lv.part {U R ps : List Loc} {x : Loc} (h : Lv U R) (hc : ∀ x ∈ U, ∀ y ∈ kids x, y ∈ U) (hnd : (ps ++ [x]).Nodup) (hs : ∀ y ∈ ps ++ [x], y ∈ R) : ((ps.flatMap kids ++ kids x).map Prod.fst).Nodup := by
  obtain ⟨rest, hr⟩ := sub_perm hnd hs
  have h1 := (h.next hc).fst
  have h2 := ((hr.flatMap_right kids).map Prod.fst).nodup_iff.1 h1
  rw [List.flatMap_append, List.map_append, List.flatMap_append] at h2
  have h3 := (List.nodup_append.1 h2).1
  simpa using h3
theorem ptr_of {U : List Loc} (hnd : (U.map Prod.fst).Nodup) {x y : Loc} (hx : x ∈ U) (hy : y ∈ U) (h : ptrV x = ptrV y) : x = y := by
  injection h with h
  injection h with h
  exact map_inj_on hnd hx hy h
theorem ptrs_back {R : List Loc} : ∀ {ps : List Value}, (∀ p ∈ ps, p ∈ ptrs R) → ∃ qs : List Loc, ptrs qs = ps ∧ ∀ q ∈ qs, q ∈ R
  | [], _ => ⟨[], rfl, by simp⟩
  | p :: ps, h => by
    obtain ⟨q, hq, e⟩ := List.mem_map.1 (h p (by simp))
    obtain ⟨qs, e2, h2⟩ := ptrs_back (ps := ps) fun x hx => h x (by simp [hx])
    exact ⟨q :: qs, by rw [← e, ← e2]; rfl, fun x hx => by
      rcases List.mem_cons.1 hx with rfl | hx
      · exact hq
      · exact h2 x hx⟩

set_option maxHeartbeats 800000 in
theorem implWidth {ok : Value → Prop} (b : Nat) (ks : List Value) (w : World) (h : PM w b ok ks one64) (hlen : ks.length ≤ 1099511627776) : Calls Tryz.prog 130 #[.map (some b)] w (GaveB (.int .i64 ks.length) w) := by
  have hb := h.lt
  have hnd := h.nodup
  obtain ⟨W0, hrange, hpr, hbW, hsW⟩ := h.range (P := Tryz.prog) Tryz.underlying174
  have HPR := Lib.hid hpr
  have HND := Lib.hid hnd
  clear h hpr hnd
  go_enter Tryz.func130, Tryz.ntmps130
  go_wp2_with fail
  go_loopw [3] (fun n wr => ∃ ps : List Value, PRange wr b w.heap.size ok ks one64 ps ∧ n = .int .i64 (ps.length : Int) ∧ Below w.heap.size w wr) (fun n _ => ks.length - (intOf n).toNat)
  case atStart => exact ⟨[], HPR.out, rfl, hbW⟩
  case round =>
    obtain ⟨ps, hpr, rfl, hbw⟩ := hrel
    have hle := nodup_le hpr.nodup.1 hpr.nodup.2
    rcases hpr.next (P := Tryz.prog) (by omega) with ⟨hall, hrun⟩ | ⟨y, w1, hy, hny, hrun, hpr1, ht1, hent⟩
    · have HL := Lib.hid (show ps.length = ks.length by
        have := nodup_le HND.out hall
        omega)
      clear hall hpr hle
      go_wp2_with fail
      go_ret
      exact ⟨congrArg (fun n : Nat => Ending.returned (.int .i64 (n : Int))) HL.out, hbw⟩
    · have hle1 := nodup_le hpr1.nodup.1 hpr1.nodup.2
      rw [List.length_append, List.length_singleton] at hle1
      have HPR1 := Lib.hid hpr1
      have hb1 : Below w.heap.size w w1 := ht1.below hbw (Nat.le_refl _) hbw.size
      have hent1 := hent w1 rfl rfl
      clear hpr hpr1 hle hy hny hent
      go_wp2_with fail
      refine (implCountOne ps.length _ (by omega)).mono ?_
      rintro e w2 ⟨rfl, rfl⟩
      go_wp2_with fail
      go_roundw
      case rel => exact ⟨ps ++ [y], HPR1.out, by rw [List.length_append]; rfl, hb1⟩
      case measure => simp [intOf]; omega
end Go.Proofs.YtplchhahjmoodaaGreatDoor
/-
  The program's row of the parts of a row.
-/
namespace Go.Proofs.YtplchhahjmoodaaGreatDoor
open Go Go.RowKit Go.ChangeAt Go.ChangeShapes Go.WideShapes

theorem zero_int (w : World) : (zeroValue 3).run Tryz.prog w = .ok (.int .i64 0) w := by kernel_rfl
theorem ptrs_flatMap_snoc (qs : List Loc) (x : Loc) : ptrs ((qs ++ [x]).flatMap kids) = ptrs (qs.flatMap kids) ++ ptrs (kids x) := by simp [ptrs]

set_option maxHeartbeats 1600000 in
theorem implBelow (U R : List Loc) (b : Nat) (w : World) (hpm : PM w b (PtrOk (blocksOf U)) (ptrs R) one64) (hlv : Lv U R) (hc : ∀ x ∈ U, ∀ y ∈ kids x, y ∈ U) (hnd : (U.map Prod.fst).Nodup) (hG : Ground1 U w) :
    Calls Tryz.prog 129 #[.map (some b)] w (fun e w' => ∃ A Q, e = .returned (.map (some A)) ∧ R.Perm Q ∧ PM w' A (PtrOk (blocksOf U)) (ptrs (Q.flatMap kids)) one64 ∧ w.heap.size ≤ A ∧ Below w.heap.size w w') := by
  have hmm := @run_makeMap Tryz.prog
  have hb := hpm.lt
  obtain ⟨W1, hW1⟩ : ∃ W, w.alloc (.map #[] 0) = W := ⟨_, rfl⟩
  have hb1 : Below w.heap.size w W1 := by rw [← hW1]; exact (Below.refl _ _).alloc (Nat.le_refl _) _
  have hs1 : W1.heap.size = w.heap.size + 1 := by rw [← hW1]; simp
  have hA1 : PM W1 w.heap.size (PtrOk (blocksOf U)) [] one64 := by rw [← hW1]; exact PM.made w _ _
  obtain ⟨W2, hrange, hpr, hb2, hs2⟩ := (hpm.below hb1).range (P := Tryz.prog) Tryz.underlying174
  have hB2 : Below w.heap.size w W2 := hb1.trans (hb2.mono (by omega))
  have HA2 := Lib.hid (hA1.below hb2)
  rw [hs1] at hpr hrange
  have HPR := Lib.hid hpr
  have HLV := Lib.hid hlv
  have HC := Lib.hid hc
  have HND := Lib.hid hnd
  have HG := Lib.hid hG
  have HR := Lib.hid hpm.nodup
  clear hpm hpr hlv hc hnd hG hA1 hb2 hs2 hs1 hb1
  go_enter Tryz.func129, Tryz.ntmps129
  go_wp2_with fail
  go_loopw [4] (fun _ wr => ∃ qs : List Loc, PRange wr b (w.heap.size + 1) (PtrOk (blocksOf U)) (ptrs R) one64 (ptrs qs) ∧ (∀ q ∈ qs, q ∈ R) ∧ PM wr w.heap.size (PtrOk (blocksOf U)) (ptrs (qs.flatMap kids)) one64 ∧ Below w.heap.size w wr) (fun _ wr => R.length - comeAt wr (w.heap.size + 1))
  case atStart => exact ⟨[], HPR.out, by simp, HA2.out, hB2⟩
  case round =>
    obtain ⟨qs, hpr, hqs, hpa, hbw⟩ := hrel
    have hcome := hpr.come
    rw [ptrs_length] at hcome
    have hnq := hpr.nodup.1
    rcases hpr.next (P := Tryz.prog) (by omega) with ⟨hall, hrun⟩ | ⟨y, w1, hy, hny, hrun, hpr1, ht1, hent⟩
    · have HP := Lib.hid (show R.Perm qs from perm_of_all (nodup_of_map hnq) (nodup_of_map HR.out) hqs fun x hx => by
        have h1 := hall (ptrV x) (List.mem_map.2 ⟨x, hx, rfl⟩)
        obtain ⟨z, hz, e⟩ := List.mem_map.1 h1
        have := ptr_of HND.out (HLV.out.sub z (hqs z hz)) (HLV.out.sub x hx) e
        rw [← this]
        exact hz)
      have HPA := Lib.hid hpa
      clear hall hpr hpa hnq hqs hcome
      go_wp2_with fail
      go_ret
      exact ⟨w.heap.size, qs, rfl, HP.out, HPA.out, Nat.le_refl _, hbw⟩
    · obtain ⟨x, hx, rfl⟩ := List.mem_map.1 hy
      have hxU := HLV.out.sub x hx
      have hb1 : Below w.heap.size w w1 := ht1.below hbw (by omega) hbw.size
      have hz1 := ht1.size
      have hpa1 := hpa.turn ht1 (.inl (by omega))
      have hcome1 := hpr1.come
      have hqx : ∀ q ∈ qs ++ [x], q ∈ R := fun q hq => by
        rcases List.mem_append.1 hq with hq | hq
        · exact hqs q hq
        · rw [List.mem_singleton.1 hq]
          exact hx
      have e1 : ptrs qs ++ [ptrV x] = ptrs (qs ++ [x]) := by simp [ptrs]
      rw [e1] at hpr1 hcome1
      rw [ptrs_length, List.length_append, List.length_singleton] at hcome1
      have hndq : (qs ++ [x]).Nodup := nodup_of_map hpr1.nodup.1
      have hlen : (qs ++ [x]).length ≤ R.length := nodup_le hndq hqx
      rw [List.length_append, List.length_singleton] at hlen
      have hpart := HLV.out.part HC.out hndq hqx
      have hG1 := HG.out.below hb1
      have hxok := hG1.ok x hxU
      have hxl := hG1.len x hxU
      have hent1 := hent w1 rfl rfl
      have HPR1 := Lib.hid hpr1
      have HPA1 := Lib.hid hpa1
      have HQX := Lib.hid hqx
      have HPART := Lib.hid hpart
      have HCM := Lib.hid hcome
      have HCM1 := Lib.hid hcome1
      have HLN := Lib.hid hlen
      unfold ptrV at hrun hent1
      clear hpr hpr1 hpa hpa1 hqs hny hent hnq hcome hcome1 hqx e1 hndq hpart hG1 hlen hy ht1
      go_wp2_with fail
      refine (implArgsOf x _ hxok hxl).mono ?_
      rintro e w2 ⟨a2, c2, rfl, hcap2, hown2, hb2⟩
      have hz2 := hb2.size
      rw [ptrs_length] at hown2 ⊢
      have hnk : (kids x).length ≤ 1099511627776 := by rw [kids_length]; exact hxl
      obtain ⟨n, hn⟩ : ∃ n, (kids x).length = n := ⟨_, rfl⟩
      rw [hn] at hown2 hnk ⊢
      have Hown2 := Lib.hid hown2
      have HN := Lib.hid hn
      have HPR2 := Lib.hid (HPR1.out.below hb2)
      have HPA2 := Lib.hid (HPA1.out.below hb2)
      have hB2' : Below w.heap.size w w2 := hb1.trans (hb2.mono (by have := hb1.size; omega))
      have hz12 := HPR1.out.lt
      clear hown2 hn hcap2 hxok hrun hent1 hbw
      go_wp2_with fail
      go_loopw [19] (fun i wq => ∃ m : Nat, m ≤ n ∧ i = .int .i64 m ∧ PRange wq b (w.heap.size + 1) (PtrOk (blocksOf U)) (ptrs R) one64 (ptrs (qs ++ [x])) ∧ PM wq w.heap.size (PtrOk (blocksOf U)) (ptrs (qs.flatMap kids ++ (kids x).take m)) one64 ∧
          wq.ownsRow w1.heap.size 63 1 (.slice a2 n c2) n (ptrs (kids x)) ∧ Below w.heap.size w wq ∧ w1.heap.size ≤ wq.heap.size) (fun i _ => n - (intOf i).toNat)
      case atStart => exact ⟨0, Nat.zero_le _, rfl, HPR2.out, by simpa using HPA2.out, Hown2.out, hB2', hz2⟩
      case round =>
        obtain ⟨m, hm, rfl, hprq, hpaq, hownq, hbq, hzq⟩ := hrel
        have hza := hpaq.lt
        by_cases hlt' : m < n
        · have hlk : m < (kids x).length := by rw [HN.out]; exact hlt'
          obtain ⟨b', o', ha2, hb', hcell'⟩ := Row.owned hownq m _ (ptrs_at (kids x) m hlk)
          have hyk : (kids x)[m] ∈ kids x := List.getElem_mem hlk
          have hyt := take_next (kids x) m hlk
          have hnew : ((qs.flatMap kids ++ (kids x).take (m + 1)).map Prod.fst).Nodup := by
            have h1 := HPART.out
            rw [← List.take_append_drop (m + 1) (kids x), ← List.append_assoc, List.map_append] at h1
            exact (List.nodup_append.1 h1).1
          rw [hyt, ← List.append_assoc] at hnew
          generalize (kids x)[m] = y at *
          have hyU := HC.out x hxU y hyk
          have hny : ptrV y ∉ ptrs (qs.flatMap kids ++ (kids x).take m) := fun h => by
            rw [List.map_append] at hnew
            exact (List.nodup_append.1 hnew).2.2 _ (ptr_inj h) y.1 (by simp) rfl
          have hyok : PtrOk (blocksOf U) (ptrV y) := ⟨_, rfl, y, hyU, rfl⟩
          have hGq := HG.out.below hbq
          have hl := hpaq.miss (key_fm U) hGq.plain Tryz.underlying174 hyok hny (zero_int _)
          obtain ⟨w4, hst, hp4, hg4⟩ := hpaq.store (key_fm U) hGq.plain Tryz.underlying174 hyok hny
          unfold ptrV at hl hst
          have hz4 := hg4.size
          have hT4 : Turn w.heap.size (w.heap.size + 1) wr w4 := Turn.of_grown hg4 fun k hk => by have := Option.some.inj hk; omega
          have HP4 := Lib.hid (show PM w4 w.heap.size (PtrOk (blocksOf U)) (ptrs (qs.flatMap kids ++ (kids x).take (m + 1))) one64 by
            rw [hyt, ← List.append_assoc, ptrs_snoc]
            exact hp4)
          have HPR4 := Lib.hid (hprq.turn hT4 (.inl hb) (.inr (Nat.le_refl _)))
          have HO4 := Lib.hid (rc_other hownq hg4 (fun k hk e => by have h1 := (hownq.lt k hk).1; have h2 := Option.some.inj e; omega))
          have hb4 : Below w.heap.size w w4 := hT4.below hbq (Nat.le_refl _) hbq.size
          have HHA := Lib.hid ha2
          subst ha2
          clear hprq hpaq hownq hnew hny hyok hGq hp4 hg4 hT4 hyt hbq
          go_wp2_with fail
          refine (implCountNew _).mono ?_
          rintro e w5 ⟨rfl, rfl⟩
          go_wp2_with fail
          go_roundw
          case rel => exact ⟨m + 1, by omega, by go_num, HPR4.out, HP4.out, HO4.out, hb4, by omega⟩
          case measure => simp [intOf]; omega
        · obtain rfl : m = n := by omega
          have HPRQ := Lib.hid hprq
          have HPAQ := Lib.hid hpaq
          clear hprq hpaq hownq
          go_wp2_with fail
          go_roundw
          case rel =>
            refine ⟨qs ++ [x], HPRQ.out, HQX.out, ?_, hbq⟩
            rw [ptrs_flatMap_snoc]
            have := HPAQ.out
            rw [← HN.out, List.take_length, ptrs, List.map_append] at this
            exact this
          case measure =>
            have h1 := HPRQ.out.come
            rw [ptrs_length, List.length_append, List.length_singleton] at h1
            have h2 := HCM.out
            have h3 := HLN.out
            omega
end Go.Proofs.YtplchhahjmoodaaGreatDoor
/-
  The program's SizeOf and DepthOf.
-/
namespace Go.Proofs.YtplchhahjmoodaaGreatDoor
open Go Go.RowKit Go.ChangeAt Go.ChangeShapes Go.WideShapes

theorem num10Info : (Tryz.prog.info? 3).map (fun i => (i.zero, i.size, i.bytes)) = some (some (.int .i64 0), 1, 8) := by kernel_rfl
/-- A tree that the program may walk over: it lies in the world, all its nodes in different places of plain cells, and it is not too large. -/
structure Solid (w : World) (t : Ft) : Prop where
  in_ : t.In w w.heap.size
  nd : t.places.Nodup
  plain : ∀ p ∈ t.places, Plain w p.block
  small : t.er.size ≤ 1099511627776
theorem Solid.below {w w' : World} {t : Ft} (h : Solid w t) (hb : Below w.heap.size w w') : Solid w' t := ⟨h.in_.to hb, h.nd, fun p hp => (h.plain p hp).below hb (h.plain p hp).lt, h.small⟩
mutual
theorem Ft.Own.plain {w : World} : ∀ (t : Ft) {lo hi : Nat}, t.Own w lo hi → ∀ p ∈ t.places, Plain w p.block
  | .mk _ _ _ _ a cap pp, lo, hi, h, p, hp => by
    rw [Ft.Own] at h
    rw [Ft.places] at hp
    obtain ⟨b, rfl, _, h2, h3⟩ := h
    rcases List.mem_append.1 hp with hp | hp
    · obtain ⟨i, _, rfl⟩ := List.mem_map.1 hp
      exact Plain.owned h2
    · exact Ft.Owns.plain pp h3 p hp
theorem Ft.Owns.plain {w : World} : ∀ (ts : List Ft) {lo hi : Nat}, Ft.Owns w lo hi ts → ∀ p ∈ Ft.placess ts, Plain w p.block
  | [], _, _, _, p, hp => by cases hp
  | t :: ts, lo, hi, h, p, hp => by
    rw [Ft.Owns] at h
    rw [Ft.placess] at hp
    obtain ⟨m, h1, h2⟩ := h
    rcases List.mem_append.1 hp with hp | hp
    · exact Ft.Own.plain t h1 p hp
    · exact Ft.Owns.plain ts h2 p hp
end
theorem Ft.Own.solid {w : World} {t : Ft} {lo hi : Nat} (h : t.Own w lo hi) (hh : hi ≤ w.heap.size) (hs : t.er.size ≤ 1099511627776) : Solid w t :=
  ⟨h.in_ t hh, (h.lie t).1, h.plain t, hs⟩
theorem nodes_size : ∀ (t : Ft) (p : Addr), ∀ x ∈ t.nodes p, x.2.er.size ≤ t.er.size := by
  apply Ft.ind (P := fun t => ∀ (p : Addr), ∀ x ∈ t.nodes p, x.2.er.size ≤ t.er.size)
  intro t ih p x hx
  rcases Ft.nodes_mem.1 hx with rfl | ⟨z, hz, hxz⟩
  · exact Nat.le_refl _
  · obtain ⟨i, hi, rfl⟩ := kids_mem hz
    have h1 : x.2.er.size ≤ (t.args[i]).er.size := ih _ (List.getElem_mem hi) _ x hxz
    have h2 : (t.args[i]).er.size ≤ Fm.sizes (t.args.map Ft.er) := Fm.size_mem (t.args.map Ft.er) _ (List.mem_map.2 ⟨_, List.getElem_mem hi, rfl⟩)
    have h3 := t.size_er
    omega
/-- The root, laid into a box of its own. -/
structure Rooted (U : List Loc) (r : Loc) (W : World) : Prop where
  first : r ∈ U
  closed : ∀ x ∈ U, ∀ y ∈ kids x, y ∈ U
  nd : (U.map Prod.fst).Nodup
  ground : Ground1 U W
theorem Solid.rooted {w : World} {t : Ft} (h : Solid w t) : Rooted (t.nodes ⟨w.heap.size, 0, none⟩) (⟨w.heap.size, 0, none⟩, t) (w.alloc (.cells #[.int .i64 t.kd, .int .i64 t.k, .int .i64 t.u, .int .i64 t.v, .slice t.a t.args.length t.cap] 27)) := by
  have hb : Below w.heap.size w (w.alloc (.cells #[.int .i64 t.kd, .int .i64 t.k, .int .i64 t.u, .int .i64 t.v, .slice t.a t.args.length t.cap] 27)) := (Below.refl _ _).alloc (Nat.le_refl _) _
  refine ⟨Ft.nodes_self _ _, Ft.nodes_closed t _, Ft.nodes_nodup (List.nodup_cons.2 ⟨fun hp => ?_, h.nd⟩), ⟨nodes_ok t _ ⟨by simp, ⟨_, _, rfl, ⟨?_, ?_, ?_, ?_, ?_⟩⟩, h.in_.to hb, ⟨_, _, (MapKept.heap_alloc w _).1⟩, fun p hp => (h.plain p hp).below hb (h.plain p hp).lt⟩, fun x hx => ?_⟩⟩
  · have := (h.plain _ hp).lt
    simp at this
  all_goals try (simp [go_sem]; done)
  have h1 := nodes_size t _ x hx
  have h2 := Fm.length_sizes (x.2.args.map Ft.er)
  have h3 := x.2.size_er
  have h4 := h.small
  rw [List.length_map] at h2
  omega

def natVals (ws : List Nat) : List Value := intVals (ws.map fun (n : Nat) => (n : Int))
theorem natVals_length (ws : List Nat) : (natVals ws).length = ws.length := by simp [natVals, intVals_length]
theorem natVals_snoc (ws : List Nat) (n : Nat) : natVals (ws ++ [n]) = natVals ws ++ [.int .i64 (n : Int)] := by rw [natVals, List.map_append, List.map_cons, List.map_nil, intVals_snoc]; rfl
theorem natVals_at (ws : List Nat) (k : Nat) (h : k < ws.length) : (natVals ws)[k]? = some (.int .i64 ((ws[k] : Nat) : Int)) := by
  rw [natVals, intVals_at _ k (by simpa using h)]
  simp
def sliceLen : Value → Nat | .slice _ n _ => n | _ => 0
def WidthsEnd (t : Ft) (w : World) (e : Ending) (w' : World) : Prop := ∃ (a : Option Addr) (c : Nat) (ws : List Nat), e = .returned (.tuple #[.slice a ws.length c, .bool true]) ∧ ws.sum = t.er.size ∧ ws.length = t.er.depth ∧ w'.ownsRow w.heap.size 3 1 (.slice a ws.length c) ws.length (natVals ws) ∧ Below w.heap.size w w'

set_option maxHeartbeats 1600000 in
theorem implWidthsOf (t : Ft) (w : World) (h : Solid w t) : Calls Tryz.prog 112 #[t.val] w (WidthsEnd t w) := by
  obtain ⟨i0, hi, hz0, hz1, hz2⟩ := info_parts num10Info
  have hmm := @run_makeMap Tryz.prog
  obtain ⟨hfirst, hc, hnd, hG⟩ := h.rooted
  have hul := Ft.nodes_length ⟨w.heap.size, 0, none⟩ t
  have hsm := h.small
  have hds := Fm.depth_le_size t.er
  have hb0 : Below w.heap.size w (w.alloc (.cells #[.int .i64 t.kd, .int .i64 t.k, .int .i64 t.u, .int .i64 t.v, .slice t.a t.args.length t.cap] 27)) := (Below.refl _ _).alloc (Nat.le_refl _) _
  have hnin := fun (L : List Loc) (hL : ∀ x ∈ L, ∀ y ∈ kids x, y ∈ L) => nodes_in hL t ⟨w.heap.size, 0, none⟩
  have hlv0 : Lv (t.nodes ⟨w.heap.size, 0, none⟩) [(⟨w.heap.size, 0, none⟩, t)] := ⟨fun x hx => by rw [List.mem_singleton.1 hx]; exact hfirst, by
    have h1 : ((⟨w.heap.size, 0, none⟩ : Addr) :: t.places).Nodup := (Ft.nodes_perm _ t).nodup_iff.1 hnd
    simpa [pls] using h1⟩
  generalize t.nodes ⟨w.heap.size, 0, none⟩ = U at *
  have HN := Lib.hid hnin
  have HF := Lib.hid hfirst
  have HC := Lib.hid hc
  have HND := Lib.hid hnd
  have HG := Lib.hid hG
  have HUL := Lib.hid hul
  have HLV := Lib.hid hlv0
  have HDS := Lib.hid hds
  have HSM := Lib.hid hsm
  clear h hfirst hc hnd hG hul hnin hlv0 hds hsm
  go_enter Tryz.func112, Tryz.ntmps112
  go_wp2_with fail
  obtain ⟨W0, hW0⟩ : ∃ W, w.alloc (.cells #[.int .i64 t.kd, .int .i64 t.k, .int .i64 t.u, .int .i64 t.v, .slice t.a t.args.length t.cap] 27) = W := ⟨_, rfl⟩
  have hs0 : W0.heap.size = w.heap.size + 1 := by rw [← hW0]; simp
  rw [hW0] at hb0 HG ⊢
  clear hW0
  have HB0 := Lib.hid hb0
  clear hb0
  refine (implReached U (⟨w.heap.size, 0, none⟩, t) _ HF.out HC.out HND.out HG.out (by rw [HUL.out]; exact HSM.out)).mono ?_
  rintro e w1 ⟨L, hmet, a1, c1, rfl, _, _, hb1⟩
  have hLU : U.length ≤ L.length := nodup_le (nodup_of_map HND.out) (HN.out L hmet.closed hmet.first)
  have hP : t.er.depth ≤ L.length := by have := HUL.out; have := HDS.out; omega
  have HP := Lib.hid hP
  have hLl : L.length ≤ 1099511627776 := by
    have h1 := nodup_le (nodup_of_map hmet.nd) hmet.sub
    have h2 := HUL.out
    have h3 := HSM.out
    omega
  rw [ptrs_length]
  generalize L.length = P at *
  clear hLU hmet hP
  have hok : PtrOk (blocksOf U) (.pointer (some ⟨w.heap.size, 0, none⟩)) := ⟨_, rfl, (⟨w.heap.size, 0, none⟩, t), HF.out, rfl⟩
  have hz1' := hb1.size
  have hbA : Below W0.heap.size W0 (w1.alloc (.map #[] 0)) := hb1.alloc hz1' _
  obtain ⟨W3, hst, hp3, hg3⟩ := (PM.made w1 (PtrOk (blocksOf U)) one64).store (key_fm U) (HG.out.below hbA).plain Tryz.underlying174 hok (by simp)
  have hb3 : Below W0.heap.size W0 W3 := below_grown hbA hg3 (by simp; omega) (fun k hk => by have := Option.some.inj hk; omega)
  have HP3 := Lib.hid hp3
  have HB3 := Lib.hid hb3
  clear hp3 hg3 hbA hok hb1
  go_wp2_with fail
  go_loopw [4, 6] (fun v g wr => ∃ (ws : List Nat) (R : List Loc) (b : Nat), g = .map (some b) ∧ wr.ownsRow W0.heap.size 3 1 v ws.length (natVals ws) ∧ PM wr b (PtrOk (blocksOf U)) (ptrs R) one64 ∧ Lv U R ∧ (∀ k, v.ownBlock = some k → k ≠ b) ∧
      ws.sum + tot R = t.er.size ∧ ws.length + dep R = t.er.depth ∧ Below W0.heap.size W0 wr) (fun v _ _ => t.er.depth - sliceLen v)
  case atStart => exact ⟨[], [(⟨w.heap.size, 0, none⟩, t)], w1.heap.size, rfl, ⟨rfl, .inl ⟨rfl, rfl⟩⟩, HP3.out, HLV.out, (fun k hk => by cases hk), (by simp [tot, Fm.sizes]), (by simp [dep, Fm.depths]), HB3.out⟩
  case round =>
    obtain ⟨ws, R, b, rfl, hown, hpm, hlv, hoff, hsum, hdep, hbw⟩ := hrel
    obtain ⟨va, vc, rfl, _⟩ := rc_shape hown
    have hl := fun ty => hpm.len (P := Tryz.prog) Tryz.underlying174 ty
    simp only [ptrs_length] at hl
    have hbl := hpm.lt
    have hzw := hbw.size
    have Hown := Lib.hid hown
    have Hpm := Lib.hid hpm
    have Hlv := Lib.hid hlv
    have Hoff := Lib.hid hoff
    have Hsum := Lib.hid hsum
    have Hdep := Lib.hid hdep
    clear hown hpm hlv hoff hsum hdep
    by_cases hR : R = []
    · have hR0 : R.length = 0 := by rw [hR]; rfl
      have HR := Lib.hid hR
      rw [hR0] at hl
      clear hR hR0
      go_wp2_with fail
      have hs := Hsum.out
      have hd := Hdep.out
      have ho := Hown.out
      rw [HR.out] at hs hd
      have hfin : Below w.heap.size w wr := HB0.out.trans (hbw.mono (by omega))
      exact bodyPost_ret (v := .tuple #[.slice va ws.length vc, .bool true]) (by simp [results, Tryz.results112, go_sem]) rfl ⟨va, vc, ws, rfl, by simpa [tot, Fm.sizes] using hs, by simpa [dep, Fm.depths] using hd, own_base ho (by omega), hfin⟩
    · have hR0 : 0 < R.length := List.length_pos_iff.2 hR
      have hdk := dep_kids R hR
      have htk := tot_kids R
      have hlt : ws.length < P := by have := HP.out; have := Hdep.out; omega
      have hne : ((ws.length : Int) == (P : Int)) = false := by
        rw [beq_eq_false_iff_ne]
        omega
      have hRl : R.length ≤ 1099511627776 := by have := Hsum.out; have := HSM.out; omega
      have Hdk := Lib.hid hdk
      have Htk := Lib.hid htk
      clear hR hdk htk
      go_wp2_with fail
      refine (implWidth b (ptrs R) _ Hpm.out (by rw [ptrs_length]; exact hRl)).mono ?_
      rintro e w4 ⟨rfl, hb4⟩
      rw [ptrs_length]
      have hz4 := hb4.size
      have Hown4 := Lib.hid (own_keeps Hown.out hb4)
      have Hpm4 := Lib.hid (Hpm.out.below hb4)
      have hbw4 := hbw.trans (hb4.mono hzw)
      clear hne hl hb4 hbw
      go_wp2_with (at_builtin; refine wpList_append_own_at _ rfl (.tmp 20) (.tmp 23) 37 rfl W0.heap.size 3 i0 (.int .i64 0) 1 8 Tryz.underlying37 hi hz0 hz1 hz2 rfl (by decide) _ ws.length _ rfl (Hown4.out.alloc _) ⟨w4.heap.size, 0, none⟩ 1 1 [.int .i64 (R.length : Int)] rfl rfl (oneCell_at _) (oneCell_int _) (by unfold maxLen; omega) (by omega) (by simp; omega) ?_; intro v5 w5 hown5 hg5 _ hloc5)
      have hb45 : Below w4.heap.size w4 (w4.alloc (.cells #[.int .i64 (R.length : Int)] 3)) := (Below.refl _ _).alloc (Nat.le_refl _) _
      have hpm5 := (Hpm4.out.below hb45).block (hg5.block b (Hpm4.out.below hb45).lt (fun e => Hoff.out b e.symm rfl))
      have hbw5 : Below W0.heap.size W0 w5 := below_grown (hbw4.trans (hb45.mono (by omega))) hg5 (by simp; omega) (fun k hk => (Hown4.out.lt k hk).1)
      obtain ⟨va5, vc5, rfl, _⟩ := rc_shape hown5
      have hz5 := hg5.size
      simp at hz5
      have Hown5 := Lib.hid hown5
      have Hloc5 := Lib.hid hloc5
      have hl5 := (hown5.lt)
      have Hl5 := Lib.hid hl5
      clear hown5 hg5 hloc5 hb45 hl5
      go_wp2_with fail
      refine (implBelow U R b _ hpm5 Hlv.out HC.out HND.out (HG.out.below hbw5)).mono ?_
      rintro e w6 ⟨A, Q, rfl, hperm, hpm6, hA, hb6⟩
      have Hown6 := Lib.hid (own_keeps Hown5.out hb6)
      have hbw6 := hbw5.trans (hb6.mono hbw5.size)
      have Hperm := Lib.hid hperm
      have Hpm6 := Lib.hid hpm6
      clear hperm hpm6 hpm5
      go_wp2_with fail
      go_roundw
      case rel =>
        have hpk : (R.flatMap kids).Perm (Q.flatMap kids) := Hperm.out.flatMap_right _
        refine ⟨ws ++ [R.length], Q.flatMap kids, A, rfl, ?_, Hpm6.out, (Hlv.out.next HC.out).perm hpk, fun k hk => ?_, ?_, ?_, hbw6⟩
        · rw [natVals_snoc, List.length_append, List.length_singleton]
          exact Hown6.out
        · have := (Hl5.out k hk).2
          omega
        · rw [List.sum_append, ← tot_perm hpk]
          have := Hsum.out
          have := Htk.out
          simp
          omega
        · rw [List.length_append, List.length_singleton, ← dep_perm hpk]
          have := Hdep.out
          have := Hdk.out
          omega
      case measure =>
        have := Hdep.out
        have := Hdk.out
        simp [sliceLen]
        omega

set_option maxHeartbeats 800000 in
theorem implSizeOf (t : Ft) (w : World) (h : Solid w t) : Calls Tryz.prog 71 #[t.val] w (GaveB (.int .i64 t.er.size) w) := by
  have hb0 : ∀ c e, Below w.heap.size w (w.alloc (.cells c e)) := fun c e => (Below.refl _ _).alloc (Nat.le_refl _) _
  have HS := Lib.hid (fun c e => h.below (hb0 c e))
  have hsm := h.small
  have HB0 := Lib.hid hb0
  clear h hb0
  go_enter Tryz.func71, Tryz.ntmps71
  go_wp2_with fail
  refine (implWidthsOf t _ (HS.out _ _)).mono ?_
  rintro e w1 ⟨a, c, ws, rfl, hsum, hdep, hown, hb1⟩
  have hwl : ws.length ≤ 1099511627776 := by have := Fm.depth_le_size t.er; omega
  have hB : Below w.heap.size w w1 := (HB0.out _ _).trans (hb1.mono (by simp))
  have hrow : Row w1 w1.heap.size a (natVals ws) := Row.owned hown
  have hpre : ∀ k, (ws.take k).sum ≤ ws.sum := fun k => by
    have := congrArg List.sum (List.take_append_drop k ws)
    rw [List.sum_append] at this
    omega
  rw [← hsum] at hsm
  have HPRE := Lib.hid hpre
  have HSUM := Lib.hid hsum
  clear hown hpre hsum hb1 hdep
  go_wp2_with fail
  go_loopw [5, 17] (fun n i wr => ∃ k : Nat, k ≤ ws.length ∧ i = .int .i64 k ∧ n = .int .i64 (((ws.take k).sum : Nat) : Int) ∧ Row wr wr.heap.size a (natVals ws) ∧ Below w.heap.size w wr) (fun _ i _ => ws.length - (intOf i).toNat)
  case atStart => exact ⟨0, Nat.zero_le _, rfl, rfl, hrow, hB⟩
  case round =>
    clear hrow hB
    obtain ⟨k, hk, rfl, rfl, hrow, hB⟩ := hrel
    by_cases hlt : k < ws.length
    · obtain ⟨b, o, rfl, hbW, hcell⟩ := hrow k _ (natVals_at ws k hlt)
      have hnx : (ws.take (k + 1)).sum = (ws.take k).sum + ws[k] := by rw [take_next ws k hlt, List.sum_append]; simp
      have h1 := HPRE.out (k + 1)
      rw [hnx] at h1
      have HNX := Lib.hid hnx
      have HROW := Lib.hid hrow
      clear hnx hrow
      generalize ws[k] = y at *
      generalize (ws.take k).sum = m at *
      go_wp2_with fail
      refine (implCountBoth m y _ (by omega)).mono ?_
      rintro e w2 ⟨rfl, rfl⟩
      go_wp2_with fail
      go_roundw
      case rel => exact ⟨k + 1, by omega, by go_num, by rw [HNX.out]; go_num, HROW.out, hB⟩
      case measure => simp [intOf]; omega
    · obtain rfl : k = ws.length := by omega
      rw [List.take_length]
      go_wp2_with fail
      go_ret
      exact ⟨congrArg (fun n : Nat => Ending.returned (.int .i64 (n : Int))) HSUM.out, hB⟩

set_option maxHeartbeats 800000 in
theorem implDepthOf (t : Ft) (w : World) (h : Solid w t) : Calls Tryz.prog 72 #[t.val] w (GaveB (.int .i64 t.er.depth) w) := by
  have hb0 : ∀ c e, Below w.heap.size w (w.alloc (.cells c e)) := fun c e => (Below.refl _ _).alloc (Nat.le_refl _) _
  have HS := Lib.hid (fun c e => h.below (hb0 c e))
  have HB0 := Lib.hid hb0
  clear h hb0
  go_enter Tryz.func72, Tryz.ntmps72
  go_wp2_with fail
  refine (implWidthsOf t _ (HS.out _ _)).mono ?_
  rintro e w1 ⟨a, c, ws, rfl, _, hdep, _, hb1⟩
  have hB : Below w.heap.size w w1 := (HB0.out _ _).trans (hb1.mono (by simp))
  have HDEP := Lib.hid hdep
  clear hb1 hdep
  go_wp2_with fail
  go_ret
  exact ⟨congrArg (fun n : Nat => Ending.returned (.int .i64 (n : Int))) HDEP.out, hB⟩
end Go.Proofs.YtplchhahjmoodaaGreatDoor
