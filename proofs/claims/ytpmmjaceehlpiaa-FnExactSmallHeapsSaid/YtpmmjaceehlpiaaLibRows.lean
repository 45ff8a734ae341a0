/-
  Go's library over rows of numbers: a copy, a question, a cell taken out. The library's contracts are the shelf's.
-/
import Derived.Test.YtpmmjaceehlpiaaHeapV
import Derived.Test.YtpmmjaceehlpiaaShelf
import Derived.Laws.IdiomCopy
namespace Go.Proofs.Ytpmmjaceehlpiaa
open Go Go.RowKit Go.ChangeShapes Go.WideShapes Go.ChangeAt

theorem row_cells {w : World} {B : Nat} {a : Option Addr} {ns : List Int} (h : Row w B a (intVals ns)) (hn : ns ≠ []) : ∃ b o, a = some ⟨b, o, none⟩ ∧ b < B ∧ ∀ j, j < ns.length → w.cell? ⟨b, o + j, none⟩ = some (.int .i64 (ns.getD j 0)) := by
  have h0 : 0 < ns.length := List.length_pos_iff.2 hn
  obtain ⟨b, o, rfl, hb, _⟩ := h 0 _ (intVals_at ns 0 h0)
  refine ⟨b, o, rfl, hb, fun j hj => ?_⟩
  obtain ⟨b', o', e, _, hc⟩ := h j _ (intVals_at ns j hj)
  injection e with e
  injection e with e1 e2
  subst e1 e2
  rw [hc]
  simp [hj]

/-- A copy of a row of numbers. -/
def CopyInts (ns : List Int) (w : World) (e : Ending) (w' : World) : Prop :=
  ∃ a c, e = .returned (.slice a ns.length c) ∧ w'.ownsRow w.heap.size 3 1 (.slice a ns.length c) ns.length (intVals ns) ∧ Below w.heap.size w w'
theorem own_shape2 {w : World} {base e size n : Nat} {v : Value} {xs : List Value} (h : w.ownsRow base e size v n xs) : ∃ a c, v = .slice a n c := by
  rcases h.2 with ⟨rfl, rfl⟩ | ⟨g, cap, cur, rfl, _, _, hc, _⟩
  · exact ⟨_, _, rfl⟩
  · exact ⟨_, _, rfl⟩
theorem libClone (a : Option Addr) (c : Nat) (ns : List Int) (w : World) (hn : ns.length ≤ 1048576) (h : Row w w.heap.size a (intVals ns)) :
    Calls Try.prog 40 #[.slice a ns.length c] w (CopyInts ns w) := by
  by_cases h0 : ns = []
  · subst h0
    cases a with
    | none =>
      refine (Try.slices_Clone_int_nil 0 c w).mono ?_
      rintro e w' ⟨rfl, rfl⟩
      exact ⟨none, 0, rfl, World.ownsRow_nil _ _ _ _, Below.refl _ _⟩
    | some a =>
      refine (Try.slices_Clone_int_zero a c w).mono ?_
      rintro e w' ⟨v', rfl, ho, _, hb⟩
      obtain ⟨a', c', rfl⟩ := own_shape2 ho
      exact ⟨a', c', rfl, ho, hb⟩
  · obtain ⟨b, o, rfl, _, hc⟩ := row_cells h h0
    refine (Try.slices_Clone_int b o ns.length c ns w (Nat.le_refl _) (by omega) hc).mono ?_
    rintro e w' ⟨v', rfl, ho, _, hb⟩
    obtain ⟨a', c', rfl⟩ := own_shape2 ho
    rw [List.take_length] at ho
    exact ⟨a', c', rfl, ho, hb⟩

theorem own_cells {base e n cap g : Nat} : ∀ (us : List Value) (o : Nat) {w : World} {xs : List Value}, w.ownsRow base e 1 (.slice (some ⟨g, 0, none⟩) n cap) n xs → o + us.length = n →
    (w.setCells g o us).ownsRow base e 1 (.slice (some ⟨g, 0, none⟩) n cap) n (xs.take o ++ us) ∧ Turn g (g + 1) w (w.setCells g o us)
  | [], o, w, xs, h, hl => by
    have hx := h.1
    simp only [List.length_nil, Nat.add_zero, Nat.mul_one] at hl hx
    rw [List.append_nil, List.take_of_length_le (by omega)]
    exact ⟨h, Turn.of_below (Below.refl _ _)⟩
  | u :: us, o, w, xs, h, hl => by
    have hx := h.1
    simp only [List.length_cons, Nat.mul_one] at hl hx
    have h1 := own_cells us (o + 1) (h.stored o u).1 (by omega)
    have hset : (xs.set o u).take (o + 1) = xs.take o ++ [u] := by
      rw [List.take_succ_eq_append_getElem (by simp; omega)]
      simp [List.take_set_of_le]
    rw [hset, List.append_assoc] at h1
    exact ⟨h1.1, (turn_cell w g o u).trans h1.2⟩
where turn_cell (W : World) (b i : Nat) (u : Value) : Turn b (b + 1) W (W.setCell ⟨b, i, none⟩ u) :=
  ⟨rfl, rfl, rfl, by simp, fun k _ hd => Below.heap_setCell _ _ _ _ (by show k ≠ b; omega)⟩
theorem own_less {w : World} {base e n m cap g : Nat} {xs : List Value} (h : w.ownsRow base e 1 (.slice (some ⟨g, 0, none⟩) n cap) n xs) (hm : m ≤ n) : w.ownsRow base e 1 (.slice (some ⟨g, 0, none⟩) m cap) m (xs.take m) := by
  have hx := h.1
  rcases h.2 with ⟨hv, _⟩ | ⟨g', cap', cur, hv, hb, hg, hnc, hcm, hcs, ht⟩
  · cases hv
  · simp only [Value.slice.injEq, Option.some.injEq, Addr.mk.injEq, and_true, true_and] at hv
    obtain ⟨rfl, rfl⟩ := hv
    refine ⟨by simp; omega, .inr ⟨g, cap, cur, rfl, hb, hg, by omega, hcm, hcs, ?_⟩⟩
    rw [← ht, List.take_take]
    congr 1
    omega

/-- One cell taken out of a row that may be written. -/
def TakenInt (lo hi g k c : Nat) (ns : List Int) (w : World) (e : Ending) (w' : World) : Prop :=
  e = .returned (.slice (some ⟨g, 0, none⟩) (ns.length - 1) c) ∧ OwnIn lo hi w' 3 1 (.slice (some ⟨g, 0, none⟩) (ns.length - 1) c) (ns.length - 1) (intVals (ns.eraseIdx k)) ∧ Turn g (g + 1) w w'
end Go.Proofs.Ytpmmjaceehlpiaa
