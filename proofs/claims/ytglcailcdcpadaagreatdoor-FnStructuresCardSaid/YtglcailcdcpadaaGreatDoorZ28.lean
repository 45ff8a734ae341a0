/-
  The model: no way round, new numbers, leak, the canonical heap, what a heap is.
-/
import Derived.Test.YtglcailcdcpadaaGreatDoorZ22
namespace Go.Proofs.YtglcailcdcpadaaGreatDoor
open Go Go.RowKit Go.Sort

theorem specNew (a : Option Addr) (cap : Nat) (o : List Int) (c : Int) (w : World) (hlen : o.length ≤ 1048576) (hrow : Row w w.heap.size a (intVals o)) :
    Calls Tryz.prog 149 #[.slice a o.length cap, .int .i64 c] w (GaveX (.int .i64 (num o c)) w) := by
  have hpl := posFrom_length c o 0
  have hnum : num o c = (posFrom c 0 o).headD (-1) := rfl
  have Hnum := Lib.hid hnum
  clear hnum
  go_enter Tryz.func149, Tryz.ntmps149
  go_wp2_with fail
  refine (specPositions a cap o c _ hlen hrow).mono ?_
  rintro e w1 ⟨ag, cg, rfl, hcg, hg, hb1⟩
  rw [intVals_length] at *
  generalize posFrom c 0 o = P at *
  cases P with
  | nil =>
    have Hn := Lib.hid (show num o c = -1 from Hnum.out)
    go_wp2
    go_ret
    exact ⟨by rw [Hn.out]; rfl, hb1⟩
  | cons x xs =>
    have Hn := Lib.hid (show num o c = x from Hnum.out)
    obtain ⟨gb, go, rfl, hgb, hgc⟩ := Row.owned hg 0 _ rfl
    rw [Nat.add_zero] at hgc
    have h0 : ¬ (((x :: xs).length : Nat) : Int) = 0 := by simp; omega
    have h1 : ((((x :: xs).length : Nat) : Int) == 0) = false := by simpa using h0
    clear hg hcg hpl
    go_wp2
    go_ret
    exact ⟨by rw [Hn.out]; rfl, hb1⟩

end Go.Proofs.YtglcailcdcpadaaGreatDoor
