/-
  The law's own copy of an edge, of a row of edges, of a program: new rows with the same contents.
-/
import Derived.Test.YtabedmjaodinbaaDoorToStrs
import Derived.Test.YtabedmjaodinbaaDoorEdges
import Derived.Test.YtabedmjaodinbaaDoorStmt
import Derived.Test.YtabedmjaodinbaaDoorApart
namespace Go.Proofs.YtabedmjaodinbaaDoor
open Go Go.RowKit

set_option maxHeartbeats 400000 in
theorem lawToEdge (x : Ed) (w : World) : Calls Tryd.prog 34 #[edV x.f x.t x.k x.a x.b] w (GaveB (edV x.f x.t x.k x.a x.b) w) := by
  obtain ⟨f, t, k, a, b⟩ := x
  go_enter Tryd.func34, Tryd.ntmps34
  go_wp2_with fail
  refine (lawToStmt k a b _).mono ?_
  rintro e w1 ⟨rfl, hb1⟩
  obtain ⟨hc, hf⟩ := bcell hb1
  have hz := hb1.size
  simp at hz
  go_wp2
  refine bodyPost_ret (v := edV f t k a b) (by simp [results, Tryd.results34, go_sem, hc]) rfl ⟨rfl, ?_⟩
  have hB : Below w.heap.size w w1 := by
    refine Below.trans ?_ (hb1.mono (by simp <;> omega))
    repeat (first | with_reducible exact Below.refl _ _ | with_reducible refine Below.alloc ?_ (by simp <;> omega) _ | with_reducible refine Below.setCell ?_ (by simp <;> omega) _)
  repeat (first | with_reducible exact hB | with_reducible refine Below.setCell ?_ (by simp <;> omega) _)

theorem edgeInfo : (Tryd.prog.info? 40).map (fun i => (i.zero, i.size, i.bytes)) = some (some (.agg #[.int .i64 0, .int .i64 0, .int .i64 0, .string ⟨#[]⟩, .string ⟨#[]⟩]), 5, 56) := by kernel_rfl

/-- A new slice at the heap's end that holds the edges; nothing old has turned. -/
def CopyEdges (es : List Ed) (w : World) (e : Ending) (w' : World) : Prop :=
  e = .returned (.slice (some ⟨w.heap.size, 0, none⟩) es.length es.length) ∧ w'.ownsRow w.heap.size 40 5 (.slice (some ⟨w.heap.size, 0, none⟩) es.length es.length) es.length (edVals es) ∧ Below w.heap.size w w'

/-- Five cells in a row turned at once. -/
def set5 (xs : List Value) (o : Nat) (x : Ed) : List Value := ((((xs.set o (.int .i64 x.f)).set (o + 1) (.int .i64 x.t)).set (o + 2) (.int .i64 x.k)).set (o + 3) (.string x.a)).set (o + 4) (.string x.b)
theorem set5_length (xs : List Value) (o : Nat) (x : Ed) : (set5 xs o x).length = xs.length := by simp [set5]
theorem set5_take (xs : List Value) (o : Nat) (x : Ed) (h : o + 5 ≤ xs.length) : (set5 xs o x).take (o + 5) = xs.take o ++ edCells x := by
  apply List.ext_getElem?
  intro j
  rcases Nat.lt_or_ge j o with hj | hj
  · rw [List.getElem?_append_left (by simp; omega), List.getElem?_take_of_lt (by omega), List.getElem?_take_of_lt hj]
    simp only [set5, List.getElem?_set]
    rw [if_neg (by omega), if_neg (by omega), if_neg (by omega), if_neg (by omega), if_neg (by omega)]
  · rw [List.getElem?_append_right (by simp; omega), List.length_take, Nat.min_eq_left (by omega)]
    rcases Nat.lt_or_ge j (o + 5) with hj5 | hj5
    · obtain ⟨i, rfl, hi⟩ : ∃ i, j = o + i ∧ i < 5 := ⟨j - o, by omega, by omega⟩
      rw [List.getElem?_take_of_lt hj5, Nat.add_sub_cancel_left]
      simp only [set5, List.getElem?_set, List.length_set]
      match i, hi with
      | 0, _ => simp [edCells]; omega
      | 1, _ => simp [edCells]; omega
      | 2, _ => simp [edCells]; omega
      | 3, _ => simp [edCells]; omega
      | 4, _ => simp [edCells]; omega
    · rw [List.getElem?_eq_none (by rw [List.length_take]; omega), List.getElem?_eq_none (by rw [edCells_length]; omega)]

set_option maxHeartbeats 800000 in
theorem toEdges (a : Option Addr) (cap : Nat) (es : List Ed) (w : World) (hn : es.length ≤ 1099511627776) (hrow : Row w w.heap.size a (edVals es)) :
    Calls Tryd.prog 18 #[.slice a es.length cap] w (CopyEdges es w) := by
  obtain ⟨i0, hi, hz0, hz1, hz2⟩ := info_parts edgeInfo
  go_enter Tryd.func18, Tryd.ntmps18
  go_wp2_with (at_make; refine wpList_make_full _ rfl _ _ 28 rfl w.heap.size 40 i0 _ 5 Tryd.underlying28 hi hz0 hz1 _ _ _ _ es.length rfl rfl rfl rfl ?b2 ?b3 (Nat.le_refl _) ?_)
  case b2 => rw [hz2]; omega
  case b3 => unfold maxLen; omega
  intro w0 hown0 hgrow0
  go_wp2
  go_loopw [4] (fun i wr => ∃ (k : Nat) (ys : List Value), k ≤ es.length ∧ i = .int .i64 k ∧ ys.take (k * 5) = edVals (es.take k) ∧ ys.length = es.length * 5 ∧
      wr.ownsRow w.heap.size 40 5 (.slice (some ⟨w.heap.size, 0, none⟩) es.length es.length) es.length ys ∧ Below w.heap.size w wr)
    (fun i _ => es.length - (intOf i).toNat)
  case atStart => exact ⟨0, _, Nat.zero_le _, rfl, by simp [edVals], by simpa using hown0.1, hown0, (Below.refl _ _).grown hgrow0 (Nat.le_refl _) (fun k h => by cases h)⟩
  case round =>
    obtain ⟨k, ys, hk, rfl, hys, hyl, hown, hb⟩ := hrel
    by_cases hlt : k < es.length
    · obtain ⟨b, o, rfl, hbW, hE0⟩ := hrow.edge k hlt
      obtain ⟨c0, c1, c2, c3, c4⟩ := hE0.below hb hbW
      have htk := take_next es k hlt
      generalize es[k] = x at *
      have Hys := Lib.hid hys
      have Hyl := Lib.hid hyl
      have Htk := Lib.hid htk
      have Hown := Lib.hid hown
      have hgs : w.heap.size < wr.heap.size := (hown.lt _ rfl).2
      clear hys hyl hown htk hE0
      go_wp2_with fail
      refine (lawToEdge x _).mono ?_
      rintro e w1 ⟨rfl, hb1⟩
      have ho1 := own_keeps Hown.out hb1
      have hB1 : Below w.heap.size w w1 := hb.trans (hb1.mono hb.size)
      have hl1 : ys.length = es.length * 5 := Hyl.out
      obtain ⟨old0, hold0⟩ : ∃ old, w1.cell? ⟨w.heap.size, k * 5, none⟩ = some old := ⟨_, (ho1.cellAt (k * 5) (by omega)).trans (List.getElem?_eq_getElem (by omega))⟩
      obtain ⟨old1, hold1⟩ : ∃ old, w1.cell? ⟨w.heap.size, k * 5 + 1, none⟩ = some old := ⟨_, (ho1.cellAt (k * 5 + 1) (by omega)).trans (List.getElem?_eq_getElem (by omega))⟩
      obtain ⟨old2, hold2⟩ : ∃ old, w1.cell? ⟨w.heap.size, k * 5 + 2, none⟩ = some old := ⟨_, (ho1.cellAt (k * 5 + 2) (by omega)).trans (List.getElem?_eq_getElem (by omega))⟩
      obtain ⟨old3, hold3⟩ : ∃ old, w1.cell? ⟨w.heap.size, k * 5 + 3, none⟩ = some old := ⟨_, (ho1.cellAt (k * 5 + 3) (by omega)).trans (List.getElem?_eq_getElem (by omega))⟩
      obtain ⟨old4, hold4⟩ : ∃ old, w1.cell? ⟨w.heap.size, k * 5 + 4, none⟩ = some old := ⟨_, (ho1.cellAt (k * 5 + 4) (by omega)).trans (List.getElem?_eq_getElem (by omega))⟩
      have hf0 := ho1.frozenAt (k * 5)
      have hf1 := ho1.frozenAt (k * 5 + 1)
      have hf2 := ho1.frozenAt (k * 5 + 2)
      have hf3 := ho1.frozenAt (k * 5 + 3)
      have hf4 := ho1.frozenAt (k * 5 + 4)
      have Ho := Lib.hid ho1
      clear ho1 hl1
      go_wp2
      go_roundw
      case rel =>
        have h0 := (Ho.out.stored (k * 5) (.int .i64 x.f)).1
        have h1 := (h0.stored (k * 5 + 1) (.int .i64 x.t)).1
        have h2 := (h1.stored (k * 5 + 2) (.int .i64 x.k)).1
        have h3 := (h2.stored (k * 5 + 3) (.string x.a)).1
        have h4 := (h3.stored (k * 5 + 4) (.string x.b)).1
        have hg : w.heap.size ≤ w.heap.size := Nat.le_refl _
        refine ⟨k + 1, set5 ys (k * 5) x, by omega, by go_num, ?_, ?_, h4, ((((hB1.setCell hg _).setCell hg _).setCell hg _).setCell hg _).setCell hg _⟩
        · rw [Nat.add_mul, Nat.one_mul, set5_take _ _ _ (by rw [Hyl.out]; omega), Hys.out, Htk.out, edVals_snoc]
        · rw [set5_length]
          exact Hyl.out
      case measure => simp [intOf]; omega
    · have hk' : k = es.length := by omega
      have Hk := Lib.hid hk'
      have Hys := Lib.hid hys
      have Hyl := Lib.hid hyl
      clear hk' hys hyl
      go_wp2
      go_ret
      have hfull : ys = edVals es := by
        have h1 := Hys.out
        rw [Hk.out, List.take_length, List.take_of_length_le (by rw [Hyl.out]; exact Nat.le_refl _)] at h1
        exact h1
      rw [hfull] at hown
      exact ⟨rfl, hown, hb⟩

/-- A copy of a program: two new rows; nothing old has turned. -/
def CopyProg (ss : List ByteArray) (p : Int) (es : List Ed) (w : World) (e : Ending) (w' : World) : Prop :=
  ∃ g1 g2, e = .returned (.agg #[.slice (some ⟨g1, 0, none⟩) ss.length ss.length, .int .i64 p, .slice (some ⟨g2, 0, none⟩) es.length es.length]) ∧ w.heap.size ≤ g1 ∧ g1 < g2 ∧
    w'.ownsRow g1 9 1 (.slice (some ⟨g1, 0, none⟩) ss.length ss.length) ss.length (strVals ss) ∧ w'.ownsRow g2 40 5 (.slice (some ⟨g2, 0, none⟩) es.length es.length) es.length (edVals es) ∧ Below w.heap.size w w'

set_option maxHeartbeats 800000 in
theorem toProgram (a : Option Addr) (cap : Nat) (ss : List ByteArray) (p : Int) (b : Option Addr) (capb : Nat) (es : List Ed) (w : World) (hn : ss.length ≤ 1099511627776) (hm : es.length ≤ 1099511627776) (ha : Row w w.heap.size a (strVals ss)) (hb : Row w w.heap.size b (edVals es)) :
    Calls Tryd.prog 7 #[.agg #[.slice a ss.length cap, .int .i64 p, .slice b es.length capb]] w (CopyProg ss p es w) := by
  have key : ∀ W, Below w.heap.size w W → Row W W.heap.size a (strVals ss) ∧ Row W W.heap.size b (edVals es) := fun W h => ⟨(ha.below h).grow h.size, (hb.below h).grow h.size⟩
  go_enter Tryd.func7, Tryd.ntmps7
  go_wp2_with fail
  refine (toStrs a cap ss _ hn (key _ ?_).1).mono ?_
  · repeat (first | exact Below.refl _ _ | refine Below.alloc ?_ (by simp <;> omega) _ | refine Below.setCell ?_ (by simp <;> omega) _)
  rintro e w1 ⟨rfl, ho1, hb1⟩
  obtain ⟨hc, hf⟩ := bcell hb1
  have hz := hb1.size
  simp at hz
  have hB1 : Below w.heap.size w w1 := by
    refine Below.trans ?_ (hb1.mono (by simp <;> omega))
    repeat (first | with_reducible exact Below.refl _ _ | with_reducible refine Below.alloc ?_ (by simp <;> omega) _ | with_reducible refine Below.setCell ?_ (by simp <;> omega) _)
  have Ho1 := Lib.hid ho1
  clear ho1
  go_wp2_with fail
  refine (toEdges b capb es _ hm (key _ ?_).2).mono ?_
  · repeat (first | with_reducible exact hB1 | with_reducible refine Below.alloc ?_ (by simp <;> omega) _ | with_reducible refine Below.setCell ?_ (by simp <;> omega) _)
  rintro e w2 ⟨rfl, ho2, hb2⟩
  obtain ⟨hc2, hf2⟩ := bcell hb2
  have hz2 := hb2.size
  simp at hz2
  have d0 : w2.cell? ⟨w.heap.size + 1 + 1, 0, none⟩ = some (.slice (some ⟨w.heap.size + 1 + 1 + 1, 0, none⟩) ss.length ss.length) := by
    rw [hc2 _ _ (by simp; omega)]
    simp [hc, go_sem]
  have d1 : w2.cell? ⟨w.heap.size + 1 + 1, 1, none⟩ = some (.int .i64 p) := by
    rw [hc2 _ _ (by simp; omega)]
    simp [hc, go_sem]
  have d2 : w2.cell? ⟨w.heap.size + 1 + 1, 2, none⟩ = some (.slice none 0 0) := by
    rw [hc2 _ _ (by simp; omega)]
    simp [hc, go_sem]
  have d3 : w2.frozen? ⟨w.heap.size + 1 + 1, 2, none⟩ = false := by
    rw [hf2 _ _ (by simp; omega)]
    simp [hf, go_sem]
  have r0 : w2.cell? ⟨w.heap.size + 1, 0, none⟩ = some (.slice none 0 0) := by
    rw [hc2 _ _ (by simp; omega)]
    simp [hc, go_sem]
  have r1 : w2.cell? ⟨w.heap.size + 1, 1, none⟩ = some (.int .i64 0) := by
    rw [hc2 _ _ (by simp; omega)]
    simp [hc, go_sem]
  have r2 : w2.cell? ⟨w.heap.size + 1, 2, none⟩ = some (.slice none 0 0) := by
    rw [hc2 _ _ (by simp; omega)]
    simp [hc, go_sem]
  have r3 : ∀ o, w2.frozen? ⟨w.heap.size + 1, o, none⟩ = false := by
    intro o
    rw [hf2 _ _ (by simp; omega)]
    simp [hf, go_sem]
  have hB2 : Below w.heap.size w w2 := by
    refine Below.trans ?_ (hb2.mono (by simp <;> omega))
    repeat (first | with_reducible exact hB1 | with_reducible refine Below.setCell ?_ (by simp <;> omega) _)
  have hk2 : w2.ownsRow (w.heap.size + 1 + 1 + 1) 9 1 (.slice (some ⟨w.heap.size + 1 + 1 + 1, 0, none⟩) ss.length ss.length) ss.length (strVals ss) := by
    have h0 : w1.ownsRow (w.heap.size + 1 + 1 + 1) 9 1 (.slice (some ⟨w.heap.size + 1 + 1 + 1, 0, none⟩) ss.length ss.length) ss.length (strVals ss) := by simpa using Ho1.out
    have h1 := ownsRow_setCell_below (ownsRow_setCell_below h0 (a := ⟨w.heap.size + 1 + 1, 0, none⟩) (Nat.lt_succ_self _) (.slice (some ⟨w.heap.size + 1 + 1 + 1, 0, none⟩) ss.length ss.length)) (a := ⟨w.heap.size + 1 + 1, 1, none⟩) (Nat.lt_succ_self _) (.int .i64 p)
    exact own_keeps h1 hb2
  have hE2 := ho2
  simp only [World.size_setCell] at hE2
  have hle : w.heap.size ≤ w.heap.size + 1 + 1 + 1 := by omega
  have hlt : w.heap.size + 1 + 1 + 1 < w1.heap.size := by
    have := Ho1.out.lt _ rfl
    simpa using this.2
  have HE2 := Lib.hid hE2
  have HK2 := Lib.hid hk2
  clear hE2 hk2 ho2 Ho1 hc hc2 hf hf2 hz hz2
  go_wp2
  refine bodyPost_ret (v := .agg #[.slice (some ⟨w.heap.size + 1 + 1 + 1, 0, none⟩) ss.length ss.length, .int .i64 p, .slice (some ⟨w1.heap.size, 0, none⟩) es.length es.length]) (by simp [results, Tryd.results7, go_sem, d0, d1, r0, r1, r2]) rfl ⟨w.heap.size + 1 + 1 + 1, w1.heap.size, rfl, hle, hlt, ?_, ?_, ?_⟩
  · repeat (first | with_reducible exact HK2.out | with_reducible refine ownsRow_setCell_below ?_ (by simp <;> omega) _)
  · repeat (first | with_reducible exact HE2.out | with_reducible refine ownsRow_setCell_below ?_ (by simp <;> omega) _)
  · repeat (first | with_reducible exact hB2 | with_reducible refine Below.setCell ?_ (by simp <;> omega) _)
end Go.Proofs.YtabedmjaodinbaaDoor
