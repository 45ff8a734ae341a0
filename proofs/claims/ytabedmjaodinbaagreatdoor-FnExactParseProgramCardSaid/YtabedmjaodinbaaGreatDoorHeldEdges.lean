/-
  The law writes marks into the edges of a program, and looks later whether they are still there.
  The law looks whether its marks still stand in a program's edges.
-/
import Derived.Test.YtabedmjaodinbaaGreatDoorMarkStrs
import Derived.Test.YtabedmjaodinbaaGreatDoorToEdges
namespace Go.Proofs.YtabedmjaodinbaaGreatDoor
open Go Go.RowKit

/-- The edge that bears the marks from k on. -/
def markE (k : Nat) : Ed := ⟨(k : Int), ((k + 1 : Nat) : Int), ((k + 2 : Nat) : Int), markS (k + 3), markS (k + 4)⟩
def marksE (k n : Nat) : List Ed := (List.range n).map fun i => markE (k + i * 5)
theorem marksE_length (k n : Nat) : (marksE k n).length = n := by simp [marksE]
theorem marksE_next (k n : Nat) : marksE k (n + 1) = marksE k n ++ [markE (k + n * 5)] := by simp [marksE, List.range_succ]
theorem marksE_at (k n j : Nat) (h : j < n) (h' : j < (marksE k n).length) : (marksE k n)[j] = markE (k + j * 5) := by simp [marksE]

theorem grown_call {w W W' : World} {r : Option Nat} (h : w.grownBy W r) (hb : Below W.heap.size W W') : w.grownBy W' r :=
  ⟨hb.os.trans h.os, hb.tape.trans h.tape, hb.output.trans h.output, Nat.le_trans h.size hb.size, fun k hk hne => (hb.block k (Nat.lt_of_lt_of_le hk h.size)).trans (h.block k hk hne)⟩
def MarkedG (base k n : Nat) (a : Option Addr) (cap : Nat) (w : World) (e : Ending) (w' : World) : Prop :=
  e = .returned (.int .i64 ((k + n : Nat) : Int)) ∧ w'.ownsRow base 9 1 (.slice a n cap) n (strVals (marksFrom k n)) ∧ w.grownBy w' (Value.slice a n cap).ownBlock

set_option maxRecDepth 100000 in
set_option maxHeartbeats 400000 in
theorem markStrsG (base k n : Nat) (a : Option Addr) (cap : Nat) (xs : List Value) (w : World) (hn : n ≤ 549755813888) (hk : k ≤ 549755813888) (hown : w.ownsRow base 9 1 (.slice a n cap) n xs) :
    Calls Tryz.prog 52 #[.slice a n cap, .int .i64 k] w (MarkedG base k n a cap w) := by
  go_enter Tryz.func52, Tryz.ntmps52
  go_wp2
  go_loopw [1, 5] (fun m i wr => ∃ (j : Nat) (ys : List Value), j ≤ n ∧ i = .int .i64 j ∧ m = .int .i64 ((k + j : Nat) : Int) ∧ ys.take j = strVals (marksFrom k j) ∧ ys.length = n ∧ wr.ownsRow base 9 1 (.slice a n cap) n ys ∧ w.grownBy wr (Value.slice a n cap).ownBlock)
    (fun _ i _ => n - (intOf i).toNat)
  case atStart => exact ⟨0, xs, Nat.zero_le _, rfl, rfl, by simp [strVals, marksFrom], by simpa using hown.1, hown, grown_self _ _⟩
  case round =>
    obtain ⟨j, ys, hj, rfl, rfl, hys, hyl, ho, hb⟩ := hrel
    by_cases hlt : j < n
    · obtain ⟨g, rfl⟩ : ∃ g, a = some ⟨g, 0, none⟩ := by
        rcases ho.2 with ⟨_, h0⟩ | ⟨g, _, _, hv, _⟩
        · omega
        · injection hv with hv _ _
          exact ⟨g, hv⟩
      have hklt : j < ys.length := by omega
      have Hys := Lib.hid hys
      have Hyl := Lib.hid hyl
      have Ho := Lib.hid ho
      clear hys hyl ho
      go_wp2_with fail
      refine (markText (k + j) (by omega) _).mono ?_
      rintro e w1 ⟨rfl, hb1⟩
      have ho1 := own_keeps Ho.out hb1
      obtain ⟨old, hold⟩ : ∃ old, w1.cell? ⟨g, j, none⟩ = some old := ⟨_, (ho1.cellAt j (by omega)).trans (List.getElem?_eq_getElem hklt)⟩
      have hfr := ho1.frozenAt j
      have hst := ho1.stored j (.string (markS (k + j)))
      have hb2 : w.grownBy w1 (some g) := grown_call hb hb1
      clear ho1
      go_wp2
      go_roundw
      case rel => exact ⟨j + 1, ys.set j (.string (markS (k + j))), by omega, by go_num, by go_num, by rw [set_take' ys j _ hklt, Hys.out, marks_next]; exact (strVals_snoc _ _).symm, by rw [List.length_set]; exact Hyl.out, hst.1, grown_cell hb2⟩
      case measure => simp [intOf]; omega
    · have hjn : j = n := by omega
      subst hjn
      have hfull : ys = strVals (marksFrom k j) := by
        rw [List.take_of_length_le (by omega)] at hys
        exact hys
      subst hfull
      have Hyl := Lib.hid hyl
      clear hys hyl
      go_wp2
      go_ret
      exact ⟨rfl, ho, hb⟩

def MarkedEdges (base k n : Nat) (a : Option Addr) (cap : Nat) (w : World) (e : Ending) (w' : World) : Prop :=
  e = .returned (.int .i64 ((k + n * 5 : Nat) : Int)) ∧ w'.ownsRow base 44 5 (.slice a n cap) n (edVals (marksE k n)) ∧ w.grownBy w' (Value.slice a n cap).ownBlock

set_option maxRecDepth 100000 in
set_option maxHeartbeats 1600000 in
theorem markEdges (base k n : Nat) (a : Option Addr) (cap : Nat) (xs : List Value) (w : World) (hn : n ≤ 54975581388) (hk : k ≤ 549755813888) (hown : w.ownsRow base 44 5 (.slice a n cap) n xs) :
    Calls Tryz.prog 53 #[.slice a n cap, .int .i64 k] w (MarkedEdges base k n a cap w) := by
  go_enter Tryz.func53, Tryz.ntmps53
  go_wp2
  go_loopw [1, 5] (fun m i wr => ∃ (j : Nat) (ys : List Value), j ≤ n ∧ i = .int .i64 j ∧ m = .int .i64 ((k + j * 5 : Nat) : Int) ∧ ys.take (j * 5) = edVals (marksE k j) ∧ ys.length = n * 5 ∧ wr.ownsRow base 44 5 (.slice a n cap) n ys ∧ w.grownBy wr (Value.slice a n cap).ownBlock)
    (fun _ i _ => n - (intOf i).toNat)
  case atStart => exact ⟨0, xs, Nat.zero_le _, rfl, rfl, by simp [edVals, marksE], by simpa using hown.1, hown, grown_self _ _⟩
  case round =>
    obtain ⟨j, ys, hj, rfl, rfl, hys, hyl, ho, hb⟩ := hrel
    by_cases hlt : j < n
    · obtain ⟨g, rfl⟩ : ∃ g, a = some ⟨g, 0, none⟩ := by
        rcases ho.2 with ⟨_, h0⟩ | ⟨g, _, _, hv, _⟩
        · omega
        · injection hv with hv _ _
          exact ⟨g, hv⟩
      obtain ⟨old0, hold0⟩ : ∃ old, wr.cell? ⟨g, j * 5, none⟩ = some old := ⟨_, (ho.cellAt (j * 5) (by omega)).trans (List.getElem?_eq_getElem (by omega))⟩
      obtain ⟨old1, hold1⟩ : ∃ old, wr.cell? ⟨g, j * 5 + 1, none⟩ = some old := ⟨_, (ho.cellAt (j * 5 + 1) (by omega)).trans (List.getElem?_eq_getElem (by omega))⟩
      obtain ⟨old2, hold2⟩ : ∃ old, wr.cell? ⟨g, j * 5 + 2, none⟩ = some old := ⟨_, (ho.cellAt (j * 5 + 2) (by omega)).trans (List.getElem?_eq_getElem (by omega))⟩
      have hf0 := ho.frozenAt (j * 5)
      have hf1 := ho.frozenAt (j * 5 + 1)
      have hf2 := ho.frozenAt (j * 5 + 2)
      have h0 := (ho.stored (j * 5) (.int .i64 ((k : Int) + (j : Int) * 5))).1
      have h1 := (h0.stored (j * 5 + 1) (.int .i64 ((k : Int) + (j : Int) * 5 + 1))).1
      have h2 := (h1.stored (j * 5 + 2) (.int .i64 ((k : Int) + (j : Int) * 5 + 1 + 1))).1
      have H2 := Lib.hid h2
      have Hys := Lib.hid hys
      have Hyl := Lib.hid hyl
      clear hys hyl ho h0 h1 h2
      go_wp2_with fail
      have e3 : (k : Int) + (j : Int) * 5 + 1 + 1 + 1 = ((k + j * 5 + 3 : Nat) : Int) := by omega
      rw [e3]
      refine (markText (k + j * 5 + 3) (by omega) _).mono ?_
      rintro e w1 ⟨rfl, hb1⟩
      have ho1 := own_keeps H2.out hb1
      have hB1 : w.grownBy w1 (some g) := grown_call (grown_cell (grown_cell (grown_cell hb))) hb1
      obtain ⟨old3, hold3⟩ : ∃ old, w1.cell? ⟨g, j * 5 + 3, none⟩ = some old := ⟨_, (ho1.cellAt (j * 5 + 3) (by omega)).trans (List.getElem?_eq_getElem (by simp [Hyl.out]; omega))⟩
      have hf3 := ho1.frozenAt (j * 5 + 3)
      have h3 := (ho1.stored (j * 5 + 3) (.string (markS (k + j * 5 + 3)))).1
      have H3 := Lib.hid h3
      clear ho1 h3 hold0 hold1 hold2 hf0 hf1 hf2
      go_wp2_with fail
      have e4 : (k : Int) + (j : Int) * 5 + 3 + 1 = ((k + j * 5 + 4 : Nat) : Int) := by omega
      rw [e4]
      clear e3 e4
      refine (markText (k + j * 5 + 4) (by omega) _).mono ?_
      rintro e w2 ⟨rfl, hb2⟩
      have ho2 := own_keeps H3.out hb2
      have hB2 : w.grownBy w2 (some g) := grown_call (grown_cell hB1) hb2
      obtain ⟨old4, hold4⟩ : ∃ old, w2.cell? ⟨g, j * 5 + 4, none⟩ = some old := ⟨_, (ho2.cellAt (j * 5 + 4) (by omega)).trans (List.getElem?_eq_getElem (by simp [Hyl.out]; omega))⟩
      have hf4 := ho2.frozenAt (j * 5 + 4)
      have h4 := (ho2.stored (j * 5 + 4) (.string (markS (k + j * 5 + 4)))).1
      have H4 := Lib.hid h4
      clear ho2 h4 hold3 hf3
      go_wp2
      go_roundw
      case rel =>
        refine ⟨j + 1, set5 ys (j * 5) (markE (k + j * 5)), by omega, by go_num, ?_, ?_, ?_, ?_, grown_cell hB2⟩
        · congr 1; omega
        · rw [Nat.add_mul, Nat.one_mul, set5_take _ _ _ (by rw [Hyl.out]; omega), Hys.out, marksE_next, edVals_snoc]
        · rw [set5_length]
          exact Hyl.out
        · have h := H4.out
          have q0 : ((k + j * 5 : Nat) : Int) = (k : Int) + (j : Int) * 5 := by omega
          have q1 : ((k + j * 5 + 1 : Nat) : Int) = (k : Int) + (j : Int) * 5 + 1 := by omega
          have q2 : ((k + j * 5 + 2 : Nat) : Int) = (k : Int) + (j : Int) * 5 + 1 + 1 := by omega
          unfold set5 markE
          simp only
          rw [q0, q1, q2]
          exact h
      case measure => simp [intOf]; omega
    · have hjn : j = n := by omega
      subst hjn
      have hfull : ys = edVals (marksE k j) := by
        rw [List.take_of_length_le (by omega)] at hys
        exact hys
      subst hfull
      have Hyl := Lib.hid hyl
      clear hys hyl
      go_wp2
      go_ret
      exact ⟨rfl, ho, hb⟩

/-- A program's two rows marked: the count goes on; nothing else has turned. -/
def MarkedProg (base1 base2 k n m : Nat) (a b : Option Addr) (ca cb : Nat) (w : World) (e : Ending) (w' : World) : Prop :=
  e = .returned (.int .i64 ((k + n + m * 5 : Nat) : Int)) ∧ w'.ownsRow base1 9 1 (.slice a n ca) n (strVals (marksFrom k n)) ∧ w'.ownsRow base2 44 5 (.slice b m cb) m (edVals (marksE (k + n) m)) ∧
    w.heap.size ≤ w'.heap.size ∧ w'.os = w.os ∧ w'.tape = w.tape ∧ w'.output = w.output ∧ ∀ j, j < w.heap.size → (Value.slice a n ca).ownBlock ≠ some j → (Value.slice b m cb).ownBlock ≠ some j → w'.heap[j]? = w.heap[j]?

set_option maxRecDepth 100000 in
set_option maxHeartbeats 800000 in
theorem markProgram (base1 base2 k n m : Nat) (a b : Option Addr) (ca cb : Nat) (xs ys : List Value) (p : Int) (w : World) (hn : n ≤ 5497558138) (hm : m ≤ 5497558138) (hk : k ≤ 54975581388)
    (ha : w.ownsRow base1 9 1 (.slice a n ca) n xs) (hb : w.ownsRow base2 44 5 (.slice b m cb) m ys) (hne : ∀ j, (Value.slice a n ca).ownBlock = some j → (Value.slice b m cb).ownBlock ≠ some j) :
    Calls Tryz.prog 22 #[.agg #[.slice a n ca, .int .i64 p, .slice b m cb], .int .i64 k] w (MarkedProg base1 base2 k n m a b ca cb w) := by
  go_enter Tryz.func22, Tryz.ntmps22
  go_wp2_with fail
  obtain ⟨W0, hW0, hb0, hs0, hA0⟩ := one_box w (.slice a n ca) (.int .i64 p) (.slice b m cb) 27
  rw [hW0]
  clear hW0
  have halt : ∀ j, (Value.slice a n ca).ownBlock = some j → j < w.heap.size := fun j hj => (ha.lt j hj).2
  have hblt : ∀ j, (Value.slice b m cb).ownBlock = some j → j < w.heap.size := fun j hj => (hb.lt j hj).2
  refine (markStrsG base1 k n a ca xs _ (by omega) (by omega) (own_keeps ha hb0)).mono ?_
  rintro e w1 ⟨rfl, ho1, hg1⟩
  have hk1 : ∀ g o, g < W0.heap.size → (Value.slice a n ca).ownBlock ≠ some g → w1.cell? ⟨g, o, none⟩ = W0.cell? ⟨g, o, none⟩ := fun g o hg hne' => World.cell?_of_block (hg1.block g hg fun e => hne' e.symm)
  have hne0 : (Value.slice a n ca).ownBlock ≠ some w.heap.size := fun h => by have := halt _ h; omega
  have d0 : w1.cell? ⟨w.heap.size, 2, none⟩ = some (.slice b m cb) := (hk1 _ _ hs0 hne0).trans hA0.2.2
  have hb1 := own_other (own_keeps hb hb0) hg1 fun j hj e => hne j e.symm hj
  have H1 := Lib.hid ho1
  have Hb1 := Lib.hid hb1
  clear ho1 hb1
  go_wp2_with fail
  have ek : (k : Int) + (n : Int) = ((k + n : Nat) : Int) := by omega
  rw [ek]
  refine (markEdges base2 (k + n) m b cb ys _ (by omega) (by omega) Hb1.out).mono ?_
  rintro e w2 ⟨rfl, ho2, hg2⟩
  have ho1 := own_other H1.out hg2 fun j hj e => hne j hj e.symm
  have HO1 := Lib.hid ho1
  have HO2 := Lib.hid ho2
  clear ho1 ho2 ek d0
  go_wp2
  go_ret
  refine ⟨rfl, HO1.out, HO2.out, Nat.le_trans hb0.size (Nat.le_trans hg1.size hg2.size), hg2.os.trans (hg1.os.trans hb0.os), hg2.tape.trans (hg1.tape.trans hb0.tape), hg2.output.trans (hg1.output.trans hb0.output), fun j hj h1 h2 => ?_⟩
  rw [hg2.block j (by have := hb0.size; have := hg1.size; omega) fun e => h2 e.symm, hg1.block j (by have := hb0.size; omega) fun e => h1 e.symm, hb0.block j hj]
end Go.Proofs.YtabedmjaodinbaaGreatDoor

namespace Go.Proofs.YtabedmjaodinbaaGreatDoor
open Go Go.RowKit

/-- All marks are there: the count behind the last. -/
def HeldEdgesEnd (k n : Nat) (w : World) (e : Ending) (w' : World) : Prop := e = .returned (.int .i64 ((k + n * 5 : Nat) : Int)) ∧ Below w.heap.size w w'

set_option maxRecDepth 100000 in
set_option maxHeartbeats 1600000 in
theorem heldEdges (k n : Nat) (a : Option Addr) (cap : Nat) (w : World) (hn : n ≤ 5497558138) (hk : k ≤ 549755813888) (hrow : Row w w.heap.size a (edVals (marksE k n))) :
    Calls Tryz.prog 55 #[.slice a n cap, .int .i64 k] w (HeldEdgesEnd k n w) := by
  go_enter Tryz.func55, Tryz.ntmps55
  go_wp2
  go_loopw [1, 5] (fun m i wr => ∃ (j : Nat), j ≤ n ∧ i = .int .i64 j ∧ m = .int .i64 ((k : Int) + (j : Int) * 5) ∧ Below w.heap.size w wr)
    (fun _ i _ => n - (intOf i).toNat)
  case atStart => exact ⟨0, Nat.zero_le _, rfl, by simp, Below.refl _ _⟩
  case round =>
    obtain ⟨j, hj, rfl, rfl, hb⟩ := hrel
    by_cases hlt : j < n
    · obtain ⟨b, o, rfl, hbW, hE⟩ := hrow.edge j (by rw [marksE_length]; exact hlt)
      rw [marksE_at k n j hlt] at hE
      have hq0 : (markE (k + j * 5)).f = (k : Int) + (j : Int) * 5 := by simp only [markE]; omega
      have hq1 : (markE (k + j * 5)).t = (k : Int) + (j : Int) * 5 + 1 := by simp only [markE]; omega
      have hq2 : (markE (k + j * 5)).k = (k : Int) + (j : Int) * 5 + 1 + 1 := by simp only [markE]; omega
      have hq3 : (markE (k + j * 5)).a = markS (k + j * 5 + 3) := rfl
      have hq4 : (markE (k + j * 5)).b = markS (k + j * 5 + 4) := rfl
      have hE' := fun W (h : Below w.heap.size w W) => hE.below h hbW
      have c0 := (hE' wr hb).f
      have c1 := (hE' wr hb).t
      have c2 := (hE' wr hb).k
      have c3 := fun W (h : Below w.heap.size w W) => (hE' W h).a
      have c4 := fun W (h : Below w.heap.size w W) => (hE' W h).b
      rw [hq0] at c0
      rw [hq1] at c1
      rw [hq2] at c2
      rw [hq3] at c3
      rw [hq4] at c4
      clear hq0 hq1 hq2 hq3 hq4 hE hE'
      have e3 : (k : Int) + (j : Int) * 5 + 1 + 1 + 1 = ((k + j * 5 + 3 : Nat) : Int) := by omega
      have e4 : (k : Int) + (j : Int) * 5 + 3 + 1 = ((k + j * 5 + 4 : Nat) : Int) := by omega
      have E3 := Lib.hid e3
      have E4 := Lib.hid e4
      have hc3 := c3 wr hb
      have C4 := Lib.hid c4
      clear e3 e4 c3 c4
      go_wp2
      rw [E3.out]
      go_region_held3 (fun w' => w'.cell? ⟨b, o + j * 5 + 3, none⟩ = some (.string (markS (k + j * 5 + 3))) ∧ Below w.heap.size w w') (first | assumption | exact ⟨hc3, Below.drew hb⟩)
        (first | (go_at_call 88; refine (markText (k + j * 5 + 3) (by omega) _).mono ?_; rintro e w1 ⟨rfl, hb1⟩; have hS := held_keeps (p := ⟨b, o + j * 5 + 3, none⟩) hbW (by assumption) hb1))
      obtain ⟨hS1, hS2⟩ := hS
      have hc4 := C4.out w1 hS2
      clear hb1 hS1 hc3
      go_wp2
      rw [E4.out]
      go_region_held3 (fun w' => w'.cell? ⟨b, o + j * 5 + 4, none⟩ = some (.string (markS (k + j * 5 + 4))) ∧ Below w.heap.size w w') (first | assumption | exact ⟨hc4, Below.drew hS2⟩)
        (first | (go_at_call 88; refine (markText (k + j * 5 + 4) (by omega) _).mono ?_; rintro e w2 ⟨rfl, hb2⟩; have hS := held_keeps (p := ⟨b, o + j * 5 + 4, none⟩) hbW (by assumption) hb2))
      obtain ⟨hS3, hS4⟩ := hS
      clear hb2 hS3 hc4 hb hS2
      go_wp2
      go_roundw
      case rel => exact ⟨j + 1, by omega, by go_num, by congr 1; omega, hS4⟩
      case measure => simp [intOf]; omega
    · have hjn : j = n := by omega
      subst hjn
      go_wp2
      go_ret
      exact ⟨by congr 2 <;> omega, hb⟩

/-- All marks of a program are there. -/
def HeldProgEnd (k n m : Nat) (w : World) (e : Ending) (w' : World) : Prop := e = .returned (.int .i64 ((k + n + m * 5 : Nat) : Int)) ∧ Below w.heap.size w w'

set_option maxRecDepth 100000 in
set_option maxHeartbeats 800000 in
theorem heldProgram (k n m : Nat) (a b : Option Addr) (ca cb : Nat) (p : Int) (w : World) (hn : n ≤ 5497558138) (hm : m ≤ 5497558138) (hk : k ≤ 54975581388) (ha : Row w w.heap.size a (strVals (marksFrom k n))) (hb : Row w w.heap.size b (edVals (marksE (k + n) m))) :
    Calls Tryz.prog 23 #[.agg #[.slice a n ca, .int .i64 p, .slice b m cb], .int .i64 k] w (HeldProgEnd k n m w) := by
  go_enter Tryz.func23, Tryz.ntmps23
  go_wp2_with fail
  obtain ⟨W0, hW0, hb0, hs0, hA0⟩ := one_box w (.slice a n ca) (.int .i64 p) (.slice b m cb) 27
  rw [hW0]
  clear hW0
  refine (heldStrs k n a ca _ (by omega) (by omega) ((ha.below hb0).grow hb0.size)).mono ?_
  rintro e w1 ⟨rfl, hb1⟩
  have hB1 := hb0.trans (hb1.mono hb0.size)
  have d0 := (hA0.keep hs0 hb1).2.2
  have h0 : ¬ ((k + n : Nat) : Int) < 0 := by omega
  go_wp2_with fail
  have ek : (k : Int) + (n : Int) = ((k + n : Nat) : Int) := by omega
  rw [ek]
  refine (heldEdges (k + n) m b cb _ (by omega) (by omega) ((hb.below hB1).grow hB1.size)).mono ?_
  rintro e w2 ⟨rfl, hb2⟩
  have h1 : ¬ ((k + n + m * 5 : Nat) : Int) < 0 := by omega
  clear ek d0
  go_wp2
  go_ret
  exact ⟨rfl, hB1.trans (hb2.mono hB1.size)⟩
end Go.Proofs.YtabedmjaodinbaaGreatDoor
