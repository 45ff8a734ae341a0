/-
  The law's comparison of two formulas: true where both hold the same.
-/
import Derived.Deep.RegionHeld3
import Derived.Test.YtplchhahjmoodaaGreatDoorZ08
import Derived.Test.YtplchhahjmoodaaGreatDoorZ07
namespace Go.Proofs.YtplchhahjmoodaaGreatDoor
open Go Go.RowKit

/-- The cells of a node, in a world; the two ways to say it. -/
def Five (w : World) (b o : Nat) (x : Ft) : Prop := w.cell? ⟨b, o, none⟩ = some (.int .i64 x.kd) ∧ w.cell? ⟨b, o + 1, none⟩ = some (.int .i64 x.k) ∧ w.cell? ⟨b, o + 2, none⟩ = some (.int .i64 x.u) ∧ w.cell? ⟨b, o + 3, none⟩ = some (.int .i64 x.v) ∧ w.cell? ⟨b, o + 4, none⟩ = some (.slice x.a x.args.length x.cap)
theorem er_len {x y : Ft} (h : x.er = y.er) : x.args.length = y.args.length := by
  have := congrArg (fun t => (Fm.args t).length) h
  simpa [Ft.er_args] using this
theorem er_num {x y : Ft} (h : x.er = y.er) : x.kd = y.kd ∧ x.k = y.k ∧ x.u = y.u ∧ x.v = y.v := by
  rw [Ft.er_eq, Ft.er_eq] at h
  injection h with h1 h2 h3 h4 _
  exact ⟨h1, h2, h3, h4⟩
theorem er_part {x y : Ft} (h : x.er = y.er) (k : Nat) (hk : k < x.args.length) (hk' : k < y.args.length) : (x.args[k]).er = (y.args[k]).er := by
  have h1 : x.args.map Ft.er = y.args.map Ft.er := by rw [← Ft.er_args, ← Ft.er_args, h]
  have := congrArg (fun l => l[k]?) h1
  simpa [hk, hk'] using this

end Go.Proofs.YtplchhahjmoodaaGreatDoor
