/-
  The law's own copy of a formula: a new tree with the same contents.
-/
import Derived.Test.YthhhmlohfhioeaaDoorOwnTree
import Derived.Laws.ResultCell
namespace Go.Proofs.YthhhmlohfhioeaaDoor
open Go Go.RowKit Go.ChangeAt

theorem fmInfo : (Tryd.prog.info? 32).map (fun i => (i.zero, i.size, i.bytes)) = some (some (.agg #[.int .i64 0, .int .i64 0, .int .i64 0, .int .i64 0, .slice none 0 0]), 5, 56) := by kernel_rfl

/-- A new tree that holds the formula; nothing old has turned. -/
def CopyTree (x : Ft) (w : World) (e : Ending) (w' : World) : Prop :=
  ∃ y : Ft, e = .returned y.val ∧ y.er = x.er ∧ y.Own w' w.heap.size w'.heap.size ∧ Below w.heap.size w w'
def CopyRow (ts : List Ft) (w : World) (e : Ending) (w' : World) : Prop :=
  ∃ ys : List Ft, e = .returned (.slice (some ⟨w.heap.size, 0, none⟩) ts.length ts.length) ∧ ys.map Ft.er = ts.map Ft.er ∧
    w'.ownsRow w.heap.size 32 5 (.slice (some ⟨w.heap.size, 0, none⟩) ts.length ts.length) ts.length (fmVals ys) ∧ Ft.Owns w' (w.heap.size + 1) w'.heap.size ys ∧ Below w.heap.size w w'

/-- Five cells in a row turned at once. -/
def setNode (xs : List Value) (o : Nat) (x : Ft) : List Value := ((((xs.set o (.int .i64 x.kd)).set (o + 1) (.int .i64 x.k)).set (o + 2) (.int .i64 x.u)).set (o + 3) (.int .i64 x.v)).set (o + 4) (.slice x.a x.args.length x.cap)
theorem setNode_length (xs : List Value) (o : Nat) (x : Ft) : (setNode xs o x).length = xs.length := by simp [setNode]
theorem setNode_take (xs : List Value) (o : Nat) (x : Ft) (h : o + 5 ≤ xs.length) : (setNode xs o x).take (o + 5) = xs.take o ++ x.cells := by
  apply List.ext_getElem?
  intro j
  rcases Nat.lt_or_ge j o with hj | hj
  · rw [List.getElem?_append_left (by simp; omega), List.getElem?_take_of_lt (by omega), List.getElem?_take_of_lt hj]
    simp only [setNode, List.getElem?_set]
    rw [if_neg (by omega), if_neg (by omega), if_neg (by omega), if_neg (by omega), if_neg (by omega)]
  · rw [List.getElem?_append_right (by simp; omega), List.length_take, Nat.min_eq_left (by omega)]
    rcases Nat.lt_or_ge j (o + 5) with hj5 | hj5
    · obtain ⟨i, rfl, hi⟩ : ∃ i, j = o + i ∧ i < 5 := ⟨j - o, by omega, by omega⟩
      rw [List.getElem?_take_of_lt hj5, Nat.add_sub_cancel_left]
      simp only [setNode, List.getElem?_set, List.length_set]
      match i, hi with
      | 0, _ => simp [Ft.cells]; omega
      | 1, _ => simp [Ft.cells]; omega
      | 2, _ => simp [Ft.cells]; omega
      | 3, _ => simp [Ft.cells]; omega
      | 4, _ => simp [Ft.cells]; omega
    · rw [List.getElem?_eq_none (by rw [List.length_take]; omega), List.getElem?_eq_none (by rw [Ft.cells_length]; omega)]

theorem ers_next (ts ys : List Ft) (k : Nat) (h : k < ts.length) (y : Ft) (hy : ys.map Ft.er = (ts.take k).map Ft.er) (he : y.er = (ts[k]).er) : (ys ++ [y]).map Ft.er = (ts.take (k + 1)).map Ft.er := by
  rw [take_next ts k h, List.map_append, List.map_append, hy, List.map_cons, List.map_nil, he]
  rfl

set_option maxHeartbeats 1600000 in
theorem toRow (a : Option Addr) (cap : Nat) (ts : List Ft) (w : World) (hn : ts.length ≤ 1099511627776) (hrow : Row w w.heap.size a (fmVals ts)) (hin : ∀ x ∈ ts, x.In w w.heap.size)
    (ih : ∀ x ∈ ts, ∀ (W : World), x.In W W.heap.size → Calls Tryd.prog 9 #[x.val] W (CopyTree x W)) :
    Calls Tryd.prog 22 #[.slice a ts.length cap] w (CopyRow ts w) := by
  obtain ⟨i0, hi, hz0, hz1, hz2⟩ := info_parts fmInfo
  have HIN := Lib.hid hin
  have IH := Lib.hid ih
  clear hin ih
  go_enter Tryd.func22, Tryd.ntmps22
  go_wp2_with (at_make; refine wpList_make_full _ rfl _ _ 30 rfl w.heap.size 32 i0 _ 5 Tryd.underlying30 hi hz0 hz1 _ _ _ _ ts.length rfl rfl rfl rfl ?b2 ?b3 (Nat.le_refl _) ?_)
  case b2 => rw [hz2]; omega
  case b3 => unfold maxLen; omega
  intro w0 hown0 hgrow0
  go_wp2_with fail
  go_loopw [4] (fun i wr => ∃ (k : Nat) (zs : List Value) (ys : List Ft), k ≤ ts.length ∧ i = .int .i64 k ∧ ys.map Ft.er = (ts.take k).map Ft.er ∧ zs.take (k * 5) = fmVals ys ∧ zs.length = ts.length * 5 ∧
      wr.ownsRow w.heap.size 32 5 (.slice (some ⟨w.heap.size, 0, none⟩) ts.length ts.length) ts.length zs ∧ Ft.Owns wr (w.heap.size + 1) wr.heap.size ys ∧ Below w.heap.size w wr)
    (fun i _ => ts.length - (intOf i).toNat)
  case atStart => exact ⟨0, _, [], Nat.zero_le _, rfl, rfl, by simp [fmVals], by simpa using hown0.1, hown0, (hown0.lt _ rfl).2, (Below.refl _ _).grown hgrow0 (Nat.le_refl _) (fun k h => by cases h)⟩
  case round =>
    obtain ⟨k, zs, ys, hk, rfl, hers, hys, hyl, hown, hos, hb⟩ := hrel
    by_cases hlt : k < ts.length
    · obtain ⟨b, o, rfl, hbW, hE0⟩ := hrow.node k hlt
      obtain ⟨c0, c1, c2, c3, c4⟩ := hE0.below hb hbW
      have hnext := fun y => ers_next ts ys k hlt y hers
      have hI := IH.out ts[k] (List.getElem_mem hlt)
      have hN := HIN.out ts[k] (List.getElem_mem hlt)
      generalize ts[k] = x at *
      have Hnext := Lib.hid hnext
      have Hys := Lib.hid hys
      have Hyl := Lib.hid hyl
      have Hown := Lib.hid hown
      have Hos := Lib.hid hos
      have HN := Lib.hid (hN.to hb)
      have HI := Lib.hid hI
      have hgs : w.heap.size < wr.heap.size := (hown.lt _ rfl).2
      clear hys hyl hown hnext hE0 hos hI hN hers
      go_wp2_with fail
      refine (HI.out _ HN.out).mono ?_
      rintro e w1 ⟨y, rfl, hy, hyo, hb1⟩
      have ho1 := own_keeps Hown.out hb1
      have hB1 : Below w.heap.size w w1 := hb.trans (hb1.mono hb.size)
      have hos1 : Ft.Owns w1 (w.heap.size + 1) w1.heap.size (ys ++ [y]) := Ft.Owns.snoc ys (Ft.Owns.turn (Turn.of_below (lo := 0) (hi := 0) hb1) ys Hos.out (.inl (Nat.zero_le _))) hyo
      have hl1 : zs.length = ts.length * 5 := Hyl.out
      obtain ⟨old0, hold0⟩ : ∃ old, w1.cell? ⟨w.heap.size, k * 5, none⟩ = some old := ⟨_, (ho1.cellAt (k * 5) (by omega)).trans (List.getElem?_eq_getElem (by omega))⟩
      obtain ⟨old1, hold1⟩ : ∃ old, w1.cell? ⟨w.heap.size, k * 5 + 1, none⟩ = some old := ⟨_, (ho1.cellAt (k * 5 + 1) (by omega)).trans (List.getElem?_eq_getElem (by omega))⟩
      obtain ⟨old2, hold2⟩ : ∃ old, w1.cell? ⟨w.heap.size, k * 5 + 2, none⟩ = some old := ⟨_, (ho1.cellAt (k * 5 + 2) (by omega)).trans (List.getElem?_eq_getElem (by omega))⟩
      obtain ⟨old3, hold3⟩ : ∃ old, w1.cell? ⟨w.heap.size, k * 5 + 3, none⟩ = some old := ⟨_, (ho1.cellAt (k * 5 + 3) (by omega)).trans (List.getElem?_eq_getElem (by omega))⟩
      obtain ⟨old4, hold4⟩ : ∃ old, w1.cell? ⟨w.heap.size, k * 5 + 4, none⟩ = some old := ⟨_, (ho1.cellAt (k * 5 + 4) (by omega)).trans (List.getElem?_eq_getElem (by omega))⟩
      have hf0 := ho1.frozenAt (k * 5)
      have hf1 := ho1.frozenAt (k * 5 + 1)
      have hf2 := ho1.frozenAt (k * 5 + 2)
      have hf3 := ho1.frozenAt (k * 5 + 3)
      have hf4 := ho1.frozenAt (k * 5 + 4)
      have Ho := Lib.hid ho1
      have Hos1 := Lib.hid hos1
      have Hy := Lib.hid hy
      clear ho1 hl1 hos1 hy hyo Hos
      go_wp2_with fail
      go_roundw
      case rel =>
        have h0 := (Ho.out.stored (k * 5) (.int .i64 y.kd))
        have h1 := (h0.1.stored (k * 5 + 1) (.int .i64 y.k))
        have h2 := (h1.1.stored (k * 5 + 2) (.int .i64 y.u))
        have h3 := (h2.1.stored (k * 5 + 3) (.int .i64 y.v))
        have h4 := (h3.1.stored (k * 5 + 4) (.slice y.a y.args.length y.cap))
        have hg : w.heap.size ≤ w.heap.size := Nat.le_refl _
        have hT : ∀ {W W' : World}, W.grownBy W' (some w.heap.size) → Turn w.heap.size (w.heap.size + 1) W W' := fun h => Turn.of_grown h fun k hk => by cases hk; omega
        have hT4 := (hT h0.2).trans ((hT h1.2).trans ((hT h2.2).trans ((hT h3.2).trans (hT h4.2))))
        refine ⟨k + 1, setNode zs (k * 5) y, ys ++ [y], by omega, by go_num, Hnext.out y Hy.out, ?_, ?_, h4.1, ?_, ((((hB1.setCell hg _).setCell hg _).setCell hg _).setCell hg _).setCell hg _⟩
        · rw [Nat.add_mul, Nat.one_mul, setNode_take _ _ _ (by rw [Hyl.out]; omega), Hys.out, fmVals_snoc]
        · rw [setNode_length]
          exact Hyl.out
        · simp only [World.size_setCell]
          exact Ft.Owns.turn hT4 _ Hos1.out (.inl (Nat.le_refl _))
      case measure => simp [intOf]; omega
    · obtain rfl : k = ts.length := by omega
      have Hys := Lib.hid hys
      have Hyl := Lib.hid hyl
      have Hers := Lib.hid hers
      clear hys hyl hers
      go_wp2_with fail
      go_ret
      have hfull : zs = fmVals ys := by
        have h1 := Hys.out
        rw [List.take_of_length_le (by rw [Hyl.out]; exact Nat.le_refl _)] at h1
        exact h1
      have he := Hers.out
      rw [List.take_length] at he
      rw [hfull] at hown
      exact ⟨ys, rfl, he, hown, hos, hb⟩

set_option maxHeartbeats 1600000 in
theorem toTree : ∀ x : Ft, ∀ (w : World), x.er.size ≤ 1099511627776 → x.In w w.heap.size → Calls Tryd.prog 9 #[x.val] w (CopyTree x w) := by
  apply Ft.ind
  intro x ih w hs hin
  have hz := x.size_er
  have hlen : x.args.length ≤ 1099511627776 := by
    have := Fm.length_sizes (x.args.map Ft.er)
    rw [List.length_map] at this
    omega
  have hsz : ∀ y ∈ x.args, y.er.size ≤ 1099511627776 := fun y hy => by
    have := Fm.size_mem (x.args.map Ft.er) y.er (List.mem_map.2 ⟨y, hy, rfl⟩)
    omega
  have HE := Lib.hid x.er_eq
  have HR := Lib.hid (fun (W : World) (h : Below w.heap.size w W) => toRow x.a x.cap x.args W hlen ((hin.to h).row) (fun y hy => (hin.to h).part hy) (fun y hy W' => ih y hy W' (hsz y hy)))
  clear hz ih hs hin hlen hsz
  go_enter Tryd.func9, Tryd.ntmps9
  go_wp2_with fail
  refine (HR.out _ ?_).mono ?_
  · repeat (first | with_reducible exact Below.refl _ _ | with_reducible refine Below.alloc ?_ (by simp <;> omega) _ | with_reducible refine Below.setCell ?_ (by simp <;> omega) _)
  rintro e w1 ⟨ys, rfl, hers, hown, hos, hb1⟩
  have hc : ∀ b o, b < w.heap.size + 3 → w1.cell? ⟨b, o, none⟩ = _ := fun b o h => hb1.cell (p := ⟨b, o, none⟩) (by simp; omega)
  have hf : ∀ b o, b < w.heap.size + 3 → w1.frozen? ⟨b, o, none⟩ = _ := fun b o h => hb1.frozen (p := ⟨b, o, none⟩) (by simp; omega)
  have hB1 : Below w.heap.size w w1 := by
    refine Below.trans ?_ (hb1.mono (by simp <;> omega))
    repeat (first | with_reducible exact Below.refl _ _ | with_reducible refine Below.alloc ?_ (by simp <;> omega) _ | with_reducible refine Below.setCell ?_ (by simp <;> omega) _)
  have hz := hb1.size
  simp at hz
  have d0 : w1.cell? ⟨w.heap.size + 1 + 1, 0, none⟩ = some (.int .i64 x.kd) := by rw [hc _ _ (by omega)]; simp [go_sem]
  have d1 : w1.cell? ⟨w.heap.size + 1 + 1, 1, none⟩ = some (.int .i64 x.k) := by rw [hc _ _ (by omega)]; simp [go_sem]
  have d2 : w1.cell? ⟨w.heap.size + 1 + 1, 2, none⟩ = some (.int .i64 x.u) := by rw [hc _ _ (by omega)]; simp [go_sem]
  have d3 : w1.cell? ⟨w.heap.size + 1 + 1, 3, none⟩ = some (.int .i64 x.v) := by rw [hc _ _ (by omega)]; simp [go_sem]
  have d4 : w1.cell? ⟨w.heap.size + 1 + 1, 4, none⟩ = some (.slice none 0 0) := by rw [hc _ _ (by omega)]; simp [go_sem]
  have d5 : w1.frozen? ⟨w.heap.size + 1 + 1, 4, none⟩ = false := by rw [hf _ _ (by omega)]; simp [go_sem]
  have r0 : w1.cell? ⟨w.heap.size + 1, 0, none⟩ = some (.int .i64 0) := by rw [hc _ _ (by omega)]; simp [go_sem]
  have r1 : w1.cell? ⟨w.heap.size + 1, 1, none⟩ = some (.int .i64 0) := by rw [hc _ _ (by omega)]; simp [go_sem]
  have r2 : w1.cell? ⟨w.heap.size + 1, 2, none⟩ = some (.int .i64 0) := by rw [hc _ _ (by omega)]; simp [go_sem]
  have r3 : w1.cell? ⟨w.heap.size + 1, 3, none⟩ = some (.int .i64 0) := by rw [hc _ _ (by omega)]; simp [go_sem]
  have r4 : w1.cell? ⟨w.heap.size + 1, 4, none⟩ = some (.slice none 0 0) := by rw [hc _ _ (by omega)]; simp [go_sem]
  have r5 : ∀ o, w1.frozen? ⟨w.heap.size + 1, o, none⟩ = false := fun o => by rw [hf _ _ (by omega)]; simp [go_sem]
  have hown' : w1.ownsRow (w.heap.size + 1 + 1 + 1) 32 5 (.slice (some ⟨w.heap.size + 1 + 1 + 1, 0, none⟩) x.args.length x.args.length) x.args.length (fmVals ys) := by simpa using hown
  have hos' : Ft.Owns w1 (w.heap.size + 1 + 1 + 1 + 1) w1.heap.size ys := by simpa using hos
  have hs1 : w.heap.size + 1 + 1 + 1 < w1.heap.size := (hown'.lt _ rfl).2
  have hel : ys.length = x.args.length := by
    have := congrArg List.length hers
    simpa using this
  have Hown := Lib.hid hown'
  have Hos := Lib.hid hos'
  have Hers := Lib.hid hers
  have Hel := Lib.hid hel
  clear hown hos hers hown' hos' hc hf hel hz
  go_wp2_with fail
  refine bodyPost_ret (v := .agg #[.int .i64 x.kd, .int .i64 x.k, .int .i64 x.u, .int .i64 x.v, .slice (some ⟨w.heap.size + 1 + 1 + 1, 0, none⟩) x.args.length x.args.length]) (by simp [results, Tryd.results9, go_sem, r0, r1, r2, r3, r4]) rfl ⟨.mk x.kd x.k x.u x.v (some ⟨w.heap.size + 1 + 1 + 1, 0, none⟩) x.args.length ys, ?_, ?_, ?_, ?_⟩
  · simp [Ft.val, Ft.kd, Ft.k, Ft.u, Ft.v, Ft.a, Ft.cap, Ft.args, Hel.out]
  · rw [HE.out, Ft.er_eq, ← Hers.out]
    rfl
  · rw [Ft.Own, Hel.out]
    have hT : ∀ {W : World} (a : Addr) (v : Value), a.block < w.heap.size + 1 + 1 + 1 → Turn 0 (w.heap.size + 1 + 1 + 1) W (W.setCell a v) := fun a v h => ⟨rfl, rfl, rfl, by simp, fun k hk hd => by
      have : a.block ≠ k := by omega
      simp [World.setCell, Array.getElem?_modify, this]⟩
    refine ⟨w.heap.size + 1 + 1 + 1, rfl, by omega, ?_, ?_⟩
    · repeat (first | with_reducible exact Hown.out | with_reducible refine ownsRow_setCell_below ?_ (by simp <;> omega) _)
    · simp only [World.size_setCell]
      refine Ft.Owns.turn (lo' := 0) (hi' := w.heap.size + 1 + 1 + 1) ?_ ys Hos.out (.inl (by omega))
      repeat (first | with_reducible refine Turn.trans ?_ (hT _ _ (by simp <;> omega)) | with_reducible exact Turn.refl _ _ _)
  · repeat (first | with_reducible exact hB1 | with_reducible refine Below.setCell ?_ (by simp <;> omega) _)
end Go.Proofs.YthhhmlohfhioeaaDoor
