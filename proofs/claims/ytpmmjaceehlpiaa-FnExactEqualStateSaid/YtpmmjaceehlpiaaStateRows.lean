/-
  States: a point and a heap; rows of states. The law's copy, size guard, comparison of a state; its comparison of two rows of states.
-/
import Derived.Test.YtpmmjaceehlpiaaHeapLists
import Derived.Test.YtpmmjaceehlpiaaHeapMarks
namespace Go.Proofs.Ytpmmjaceehlpiaa
open Go Go.RowKit

structure Sp where
  p : Int
  h : Hp
def Sp.body (x : Sp) : Int × (List Int × List Int) := (x.p, x.h.body)
abbrev spC (p : Int) (a : Option Addr) (n ca : Nat) (b : Option Addr) (m cb : Nat) : Value := .agg #[.int .i64 p, .slice a n ca, .slice b m cb]
def spCells (x : Sp) : List Value := [.int .i64 x.p, .slice x.h.a x.h.vs.length x.h.ca, .slice x.h.b x.h.zs.length x.h.cb]
theorem spCells_length (x : Sp) : (spCells x).length = 3 := rfl
abbrev spVals (ss : List Sp) : List Value := fl spCells ss
/-- A row of states that may be read. -/
structure StatesAt (W : World) (a : Option Addr) (ss : List Sp) : Prop where
  row : Row W W.heap.size a (spVals ss)
  each : ∀ x ∈ ss, x.h.At W
theorem StatesAt.below {W W' : World} {a : Option Addr} {ss : List Sp} (h : StatesAt W a ss) (hb : Below W.heap.size W W') : StatesAt W' a ss :=
  ⟨(h.row.below hb).grow hb.size, fun x hx => (h.each x hx).below hb⟩
theorem StatesAt.item {W : World} {a : Option Addr} {ss : List Sp} (h : StatesAt W a ss) (k : Nat) (hk : k < ss.length) :
    ∃ b o, a = some ⟨b, o, none⟩ ∧ b < W.heap.size ∧ W.cell? ⟨b, o + k * 3, none⟩ = some (.int .i64 ss[k].p) ∧ W.cell? ⟨b, o + k * 3 + 1, none⟩ = some (.slice ss[k].h.a ss[k].h.vs.length ss[k].h.ca) ∧
      W.cell? ⟨b, o + k * 3 + 2, none⟩ = some (.slice ss[k].h.b ss[k].h.zs.length ss[k].h.cb) ∧ ss[k].h.At W := by
  obtain ⟨b, o, rfl, hb, hc⟩ := Row.item spCells_length (by omega) h.row k hk
  exact ⟨b, o, rfl, hb, hc 0 _ rfl, by rw [Nat.add_assoc]; exact hc 1 _ rfl, by rw [Nat.add_assoc]; exact hc 2 _ rfl, h.each _ (List.getElem_mem hk)⟩

set_option maxHeartbeats 800000 in
theorem szState (p : Int) (a b : Option Addr) (ca cb n m : Nat) (left : Nat) (w : World) (hl : left ≤ 1099511627776) (hn : n ≤ maxLen) (hm : m ≤ maxLen) :
    Calls Try.prog 10 #[spC p a n ca b m cb, .int .i64 left] w fun e w' => ∃ r : Int, e = .returned (.int .i64 r) ∧ Below w.heap.size w w' ∧ r ≤ left ∧ (0 ≤ r → (n : Int) + m + r = left) := by
  go_enter Try.func10, Try.ntmps10
  go_wp2_with fail
  refine (szHeap a b ca cb n m left _ hl hn hm).mono ?_
  rintro e w1 ⟨r, rfl, hb1, hr, hok⟩
  have hB : Below w.heap.size w w1 := by
    refine Below.trans ?_ (hb1.mono (by simp <;> omega))
    repeat (first | with_reducible exact Below.refl _ _ | with_reducible refine Below.alloc ?_ (by simp <;> omega) _ | with_reducible refine Below.setCell ?_ (by simp <;> omega) _)
  have Hok := Lib.hid hok
  have HB := Lib.hid hB
  clear hok hB hb1
  by_cases hneg : r < 0
  · go_wp2
    go_ret
    exact ⟨-1, rfl, HB.out, by omega, fun h => by omega⟩
  · go_wp2
    go_ret
    exact ⟨r, rfl, HB.out, hr, Hok.out⟩

set_option maxHeartbeats 800000 in
theorem eqStates (p : Int) (a b c d : Option Addr) (ca cb cc cd : Nat) (vs zs : List Int) (w : World) (hn : vs.length ≤ maxLen) (hm : zs.length ≤ maxLen) (h : HeapAt w a b vs zs) (h' : HeapAt w c d vs zs) :
    Calls Try.prog 14 #[spC p a vs.length ca b zs.length cb, spC p c vs.length cc d zs.length cd] w (GaveX (.bool true) w) := by
  have key : ∀ W, Below w.heap.size w W → HeapAt W a b vs zs ∧ HeapAt W c d vs zs := fun W hb => ⟨h.below hb (Nat.le_refl _), h'.below hb (Nat.le_refl _)⟩
  go_enter Try.func14, Try.ntmps14
  go_wp2_with fail
  have hb0 : ∀ u v t t', Below w.heap.size w ((w.alloc (.cells u t)).alloc (.cells v t')) := fun u v t t' => ((Below.refl _ _).alloc (Nat.le_refl _) _).alloc (by simp) _
  refine (eqHeaps a b c d ca cb cc cd vs zs _ hn hm (key _ (hb0 _ _ _ _)).1 (key _ (hb0 _ _ _ _)).2).mono ?_
  rintro e w1 ⟨rfl, hb1⟩
  have hB := (hb0 _ _ _ _).trans (hb1.mono (hb0 _ _ _ _).size)
  go_wp2
  go_ret
  exact ⟨rfl, hB⟩

end Go.Proofs.Ytpmmjaceehlpiaa
