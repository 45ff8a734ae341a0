/-
  What a name is, the place of a string in a list, a list of variables, the positions of a number in a list.
-/
import Derived.Test.YtplchhahjmoodaaDoorNums
namespace Go.Proofs.YtplchhahjmoodaaDoor
open Go Go.RowKit

def goodName (s : ByteArray) : Bool := decide ((∀ k (h : k < s.size), 97 ≤ (s[k]'h).toNat ∧ (s[k]'h).toNat ≤ 122) ∧ 1 ≤ s.size ∧ s.size ≤ 2)
theorem name_bad {s : ByteArray} {k : Nat} (h : k < s.size) (hb : (s[k]'h).toNat < 97 ∨ 122 < (s[k]'h).toNat) : goodName s = false := by
  simp only [goodName, decide_eq_false_iff_not]
  intro hh
  have := hh.1 k h
  omega
theorem name_long {s : ByteArray} (h : 2 < s.size) : goodName s = false := by
  simp only [goodName, decide_eq_false_iff_not]
  omega
theorem name_whole {s : ByteArray} (h : ∀ k (h : k < s.size), 97 ≤ (s[k]'h).toNat ∧ (s[k]'h).toNat ≤ 122) : goodName s = decide (1 ≤ s.size ∧ s.size ≤ 2) := by
  simp only [goodName]
  congr 1
  simp only [eq_iff_iff]
  exact ⟨fun hh => hh.2, fun hh => ⟨h, hh⟩⟩

def placeFrom (s : ByteArray) : Nat → List ByteArray → Int
  | _, [] => -1
  | k, x :: xs => if (x.toList == s.toList) = true then (k : Int) else placeFrom s (k + 1) xs
def place (ss : List ByteArray) (s : ByteArray) : Int := placeFrom s 0 ss
theorem place_hit {ss : List ByteArray} {s : ByteArray} {k : Nat} (h : k < ss.length) (e : (ss[k].toList == s.toList) = true) : placeFrom s k (ss.drop k) = (k : Int) := by
  rw [List.drop_eq_getElem_cons h, placeFrom, if_pos e]
theorem place_miss {ss : List ByteArray} {s : ByteArray} {k : Nat} (h : k < ss.length) (e : (ss[k].toList == s.toList) = false) : placeFrom s k (ss.drop k) = placeFrom s (k + 1) (ss.drop (k + 1)) := by
  rw [List.drop_eq_getElem_cons h, placeFrom, if_neg (by simp [e])]
theorem place_end {ss : List ByteArray} {s : ByteArray} {k : Nat} (h : ss.length ≤ k) : placeFrom s k (ss.drop k) = -1 := by
  rw [List.drop_eq_nil_of_le h, placeFrom]
theorem placeFrom_bounds (s : ByteArray) : ∀ (ss : List ByteArray) (k : Nat), -1 ≤ placeFrom s k ss ∧ placeFrom s k ss < (k : Int) + ss.length + 1
  | [], k => by simp [placeFrom]; omega
  | x :: xs, k => by
    have := placeFrom_bounds s xs (k + 1)
    simp only [placeFrom, List.length_cons]
    split <;> omega
theorem place_bounds (ss : List ByteArray) (s : ByteArray) : -1 ≤ place ss s ∧ place ss s ≤ ss.length := by
  have := placeFrom_bounds s ss 0
  simp only [place]
  omega

def goodVars (ss : List ByteArray) : Bool := decide ((∀ k (h : k < ss.length), goodName ss[k] = true ∧ place ss ss[k] = (k : Int)) ∧ 1 ≤ ss.length ∧ ss.length ≤ 4)
theorem vars_bad {ss : List ByteArray} {k : Nat} (h : k < ss.length) (hb : ¬ (goodName ss[k] = true ∧ place ss ss[k] = (k : Int))) : goodVars ss = false := by
  simp only [goodVars, decide_eq_false_iff_not]
  exact fun hh => hb (hh.1 k h)
theorem vars_length {ss : List ByteArray} (h : ¬ (1 ≤ ss.length ∧ ss.length ≤ 4)) : goodVars ss = false := by
  simp only [goodVars, decide_eq_false_iff_not]
  exact fun hh => h hh.2
theorem vars_whole {ss : List ByteArray} (h : ∀ k (h : k < ss.length), goodName ss[k] = true ∧ place ss ss[k] = (k : Int)) : goodVars ss = decide (1 ≤ ss.length ∧ ss.length ≤ 4) := by
  simp only [goodVars]
  congr 1
  simp only [eq_iff_iff]
  exact ⟨fun hh => hh.2, fun hh => ⟨h, hh⟩⟩
theorem vars_at {ss : List ByteArray} (h : goodVars ss = true) {k : Nat} (hk : k < ss.length) : goodName ss[k] = true ∧ place ss ss[k] = (k : Int) := (of_decide_eq_true h).1 k hk

/-- Where a number stands in a list. -/
def posFrom (n : Int) : Nat → List Int → List Int
  | _, [] => []
  | k, z :: zs => if z = n then (k : Int) :: posFrom n (k + 1) zs else posFrom n (k + 1) zs
theorem pos_hit {zs : List Int} {n : Int} {k : Nat} (h : k < zs.length) (e : zs[k] = n) : posFrom n k (zs.drop k) = (k : Int) :: posFrom n (k + 1) (zs.drop (k + 1)) := by
  rw [List.drop_eq_getElem_cons h, posFrom, if_pos e]
theorem pos_miss {zs : List Int} {n : Int} {k : Nat} (h : k < zs.length) (e : zs[k] ≠ n) : posFrom n k (zs.drop k) = posFrom n (k + 1) (zs.drop (k + 1)) := by
  rw [List.drop_eq_getElem_cons h, posFrom, if_neg e]
theorem pos_end {zs : List Int} {n : Int} {k : Nat} (h : zs.length ≤ k) : posFrom n k (zs.drop k) = [] := by
  rw [List.drop_eq_nil_of_le h, posFrom]
theorem posFrom_length (n : Int) : ∀ (zs : List Int) (k : Nat), (posFrom n k zs).length ≤ zs.length
  | [], _ => by simp [posFrom]
  | z :: zs, k => by
    have := posFrom_length n zs (k + 1)
    simp only [posFrom, List.length_cons]
    split
    · simp; omega
    · omega
theorem posFrom_mem (n : Int) : ∀ (zs : List Int) (k : Nat) (z : Int), z ∈ posFrom n k zs → ∃ j : Nat, z = ((k + j : Nat) : Int) ∧ ∃ h : j < zs.length, zs[j] = n
  | [], _, _, h => by simp [posFrom] at h
  | x :: xs, k, z, h => by
    have hrec : z ∈ posFrom n (k + 1) xs → ∃ j : Nat, z = ((k + j : Nat) : Int) ∧ ∃ h : j < (x :: xs).length, (x :: xs)[j] = n := by
      intro h
      obtain ⟨j, e, hj, hn⟩ := posFrom_mem n xs (k + 1) z h
      exact ⟨j + 1, by rw [e]; congr 1; omega, by simp; omega, by simpa using hn⟩
    simp only [posFrom] at h
    split at h
    · rename_i hx
      rcases List.mem_cons.1 h with e | h
      · exact ⟨0, by simpa using e, by simp, by simpa using hx⟩
      · exact hrec h
    · exact hrec h
theorem posFrom_lt (n : Int) : ∀ (zs : List Int) (k : Nat), (posFrom n k zs).Pairwise (· < ·)
  | [], _ => by simp [posFrom]
  | x :: xs, k => by
    have h := posFrom_lt n xs (k + 1)
    simp only [posFrom]
    split
    · refine List.pairwise_cons.2 ⟨fun z hz => ?_, h⟩
      obtain ⟨j, e, _⟩ := posFrom_mem n xs (k + 1) z hz
      omega
    · exact h
end Go.Proofs.YtplchhahjmoodaaDoor
