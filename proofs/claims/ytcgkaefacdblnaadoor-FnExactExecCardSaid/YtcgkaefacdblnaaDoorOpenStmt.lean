/-
  An argument that is a statement, opened: its kind and its two names. Nothing here knows of the program.
-/
import Derived.Test.YtcgkaefacdblnaaDoorWords
import Derived.Lib.SmallJoins
namespace Go.Proofs.YtcgkaefacdblnaaDoor
open Go Go.Joins Go.ChangeShapes Go.WideShapes Go.RowKit Go.Deep

theorem open_stmt {H : Type} {enc : TypeId × Value → H} {P : Program} {w : World} {base : Nat} {spare : Nat → Bool} {held : Bool} {r : Reach} {b0 : Nat} {t : TypeId} {f0 f1 f2 : Field} {v : Value} {d : DataW H} {p : List MemPlace}
    (hs : P.underlying t = some (.struct #[f0, f1, f2])) (hone : oneCellFields P #[f0, f1, f2] = true) (hC : P.cellsOf t = 3)
    (h0 : P.underlying f0.type = some (.int .i64)) (h1 : P.underlying f1.type = some .string) (h2 : P.underlying f2.type = some .string)
    (hv : Value.okWide P w r b0 t v) (h : DataW.Trod enc P w base spare held t v d p) :
    ∃ (k : Int) (a b : ByteArray), v = .agg #[.int .i64 k, .string a, .string b] ∧ (-9223372036854775808 ≤ k ∧ k ≤ 9223372036854775807) ∧ a.size ≤ maxLen ∧ b.size ≤ maxLen := by
  obtain ⟨v0, v1, v2, y0, y1, y2, n, rfl, _, _, g0, g1, g2⟩ := open_agg3 hs hone hC hv h
  obtain ⟨k, e0, _, hw⟩ := DataW.trod_int h0 g0
  obtain ⟨a, e1, _, ha⟩ := DataW.trod_string h1 g1
  obtain ⟨b, e2, _, hb⟩ := DataW.trod_string h2 g2
  simp only [List.cons.injEq, and_true] at e0 e1 e2
  subst e0 e1 e2
  exact ⟨k, a, b, rfl, i64_bounds hw, ha, hb⟩
end Go.Proofs.YtcgkaefacdblnaaDoor
