/-
  What ParseFormula answers: the formula whose text it was, or none.
-/
import Derived.Test.YtplchhahjmoodaaDoorZ45
import Derived.Test.YtplchhahjmoodaaDoorZ36
namespace Go.Proofs.YtplchhahjmoodaaDoor
open Go Go.RowKit Go.ChangeAt Go.ChangeShapes Go.WideShapes

theorem stepP_size {ss : List ByteArray} {F : RdS → Fm × RdS} {N : Nat} (hF : ∀ r, (F r).1.size + 1 ≤ N) (hN : 2 ≤ N) (r : RdS) : (stepP ss F r).1.size + 1 ≤ 2 * N := by
  have l1 : ∀ kd k u v, (Fm.mk kd k u v []).size = 1 := fun _ _ _ _ => rfl
  have l2 : ∀ kd k u v a, (Fm.mk kd k u v [a]).size = a.size + 1 := fun _ _ _ _ _ => rfl
  have l3 : ∀ kd k u v a b, (Fm.mk kd k u v [a, b]).size = a.size + b.size + 1 := fun _ _ _ _ _ _ => rfl
  unfold stepP
  have one : ∀ q : Fm × RdS, q.1.size = 1 → q.1.size + 1 ≤ 2 * N := fun q h => by omega
  by_cases h : r.2 = true
  · rw [if_pos h]; exact one _ rfl
  rw [if_neg h]
  by_cases h0 : (takeP [116, 114, 117, 101] r).1 = true
  · rw [if_pos h0]
    exact one _ rfl
  rw [if_neg h0]
  by_cases h1 : (takeP [111, 110, 32] r).1 = true
  · rw [if_pos h1]
    exact one _ rfl
  rw [if_neg h1]
  by_cases h2 : (takeP [102, 114, 111, 109, 32] r).1 = true
  · rw [if_pos h2]
    exact one _ rfl
  rw [if_neg h2]
  by_cases h3 : (takeP [115, 104, 97, 114, 101, 100, 58] r).1 = true
  · rw [if_pos h3]
    exact one _ rfl
  rw [if_neg h3]
  by_cases h4 : (takeP [110, 101, 120, 116, 58] r).1 = true
  · rw [if_pos h4]
    exact one _ rfl
  rw [if_neg h4]
  by_cases h5 : (takeP [115, 97, 109, 101, 58] r).1 = true
  · rw [if_pos h5]
    exact one _ rfl
  rw [if_neg h5]
  by_cases h6 : (takeP [112, 97, 116, 104, 58] r).1 = true
  · rw [if_pos h6]
    exact one _ rfl
  rw [if_neg h6]
  by_cases h7 : (takeP [33] r).1 = true
  · rw [if_pos h7]
    have := hF (takeP [33] r).2
    exact Nat.le_trans (Nat.add_le_add_right (Nat.le_of_eq (l2 _ _ _ _ _)) 1) (by omega)
  rw [if_neg h7]
  by_cases h8 : (takeP [115, 111, 109, 101, 32] r).1 = true
  · rw [if_pos h8]
    have := hF (mustP [46] (varP (takeP [115, 111, 109, 101, 32] r).2).2)
    exact Nat.le_trans (Nat.add_le_add_right (Nat.le_of_eq (l2 _ _ _ _ _)) 1) (by omega)
  rw [if_neg h8]
  by_cases h9 : (takeP [97, 108, 108, 32] r).1 = true
  · rw [if_pos h9]
    have := hF (mustP [46] (varP (takeP [97, 108, 108, 32] r).2).2)
    exact Nat.le_trans (Nat.add_le_add_right (Nat.le_of_eq (l2 _ _ _ _ _)) 1) (by omega)
  rw [if_neg h9]
  by_cases hm : (mustP [40] r).2 = true
  · rw [if_pos hm]; exact one _ rfl
  rw [if_neg hm]
  obtain ⟨a, r1, h1⟩ : ∃ a r1, F (mustP [40] r) = (a, r1) := ⟨_, _, rfl⟩
  have ha := hF (mustP [40] r)
  rw [h1] at ha
  simp only at ha
  obtain ⟨kd, h2⟩ : ∃ kd, (if (takeP [38] r1).1 = true then (9 : Int) else 10) = kd := ⟨_, rfl⟩
  obtain ⟨r2, h3⟩ : ∃ r2, (if (takeP [38] r1).1 = true then (takeP [38] r1).2 else mustP [124] r1) = r2 := ⟨_, rfl⟩
  cases h4 : r2.2 with
  | true =>
    rw [two_bad h1 h2 h3 h4]
    simp only [l1]
    omega
  | false =>
    obtain ⟨c, r4, h5⟩ : ∃ c r4, F r2 = (c, r4) := ⟨_, _, rfl⟩
    have hc := hF r2
    rw [h5] at hc
    rw [two_ok h1 h2 h3 h4 h5]
    simp only [l3]
    simp only at hc
    omega
theorem allP_size (ss : List ByteArray) : ∀ (n : Nat) (r : RdS), (allP ss n r).1.size + 1 ≤ 2 ^ (n + 1)
  | 0, r => Nat.le_refl 2
  | n + 1, r => by
    rw [allP_succ, Nat.pow_succ, Nat.mul_comm]
    exact stepP_size (allP_size ss n) (by have := Nat.one_le_two_pow (n := n); rw [Nat.pow_succ]; omega) r
/-- What ParseFormula answers. -/
def Parsed (ss : List ByteArray) (s : ByteArray) (f : Fm) (ok : Bool) : Prop := (ok = true ∧ s ≠ ⟨#[]⟩ ∧ fmText ss f = s) ∨ (ok = false ∧ f = zeroF ∧ (s = ⟨#[]⟩ ∨ ∀ t, fmText ss t ≠ s))
theorem fm_right {ss : List ByteArray} {s : ByteArray} {t : Fm} (h : s ≠ ⟨#[]⟩) (ht : fmText ss t = s) : allP ss 12 (s.data.toList, false) = (t, ([], false)) := by
  unfold fmText at ht
  by_cases hg : goodVars ss = true ∧ isFmB ss.length t = true
  · rw [if_pos hg] at ht
    have hf := form_parts hg.2
    have hd : t.depth ≤ 12 := by
      have := hg.2
      unfold isFmB at this
      simp only [Bool.and_eq_true, decide_eq_true_eq] at this
      exact this.2.1
    have := all_text hg.1 t hf.1 12 [] hd
    rw [List.append_nil, ← text_list, ht] at this
    exact this
  · rw [if_neg hg] at ht
    exact (h ht.symm).elim
theorem Parsed.one {ss : List ByteArray} {s : ByteArray} {f g : Fm} {a b : Bool} (h : Parsed ss s f a) (k : Parsed ss s g b) : f = g ∧ a = b := by
  rcases h with ⟨rfl, h1, h2⟩ | ⟨rfl, rfl, h1⟩
  · rcases k with ⟨rfl, k1, k2⟩ | ⟨rfl, rfl, k1⟩
    · have e := (fm_right h1 h2).symm.trans (fm_right k1 k2)
      exact ⟨congrArg Prod.fst e, rfl⟩
    · rcases k1 with k1 | k1
      · exact (h1 k1).elim
      · exact (k1 _ h2).elim
  · rcases k with ⟨rfl, k1, k2⟩ | ⟨rfl, rfl, k1⟩
    · rcases h1 with h1 | h1
      · exact (k1 h1).elim
      · exact (h1 _ k2).elim
    · exact ⟨rfl, rfl⟩
end Go.Proofs.YtplchhahjmoodaaDoor
