/-
  What joining gives, as lists of bytes; a slice of the call's own bytes read as a string. Nothing here knows of the program.
-/
import Derived.Lib.Join
import Derived.Lib.UnsafeStr
import Derived.Laws.BytesString
import Derived.Laws.IdiomStrings
import Derived.Test.YtplchhahjmoodaaGreatDoorZ02
namespace Go.Proofs.YtplchhahjmoodaaGreatDoor
open Go Go.RowKit

/-- The strings one after the other, the separator between them. -/
def jn (ss : List ByteArray) (sep : ByteArray) : List UInt8 := Lib.join (ss.map (·.data.toList)) sep.data.toList

theorem jn_nil (sep : ByteArray) : jn [] sep = [] := rfl
theorem jn_one (x sep : ByteArray) : jn [x] sep = x.data.toList := Lib.join_one _ _
theorem jn_snoc (y : ByteArray) (l : List ByteArray) (x sep : ByteArray) : jn ((y :: l) ++ [x]) sep = jn (y :: l) sep ++ sep.data.toList ++ x.data.toList := by
  simp [jn, Lib.join_cons, Lib.joinTail, List.append_assoc]
theorem size_toList (s : ByteArray) : s.data.toList.length = s.size := by simp
theorem lens_total (ss : List ByteArray) : Lib.lens (ss.map (·.data.toList)) = total ss := by
  induction ss with
  | nil => rfl
  | cons s r ih =>
    simp only [Lib.lens, total, List.map_cons, List.map_map, List.sum_cons] at ih ⊢
    rw [ih, size_toList]
theorem jn_length (ss : List ByteArray) (sep : ByteArray) : (jn ss sep).length ≤ ss.length * sep.size + total ss := by
  cases ss with
  | nil => simp [jn_nil]
  | cons s r =>
    have h := Lib.join_length s.data.toList (r.map (·.data.toList)) sep.data.toList
    have h2 := lens_total (s :: r)
    rw [List.map_cons] at h2
    rw [h2, List.length_map, size_toList] at h
    rw [jn, List.map_cons, h, List.length_cons, Nat.add_mul, Nat.one_mul, Nat.mul_comm]
    omega
theorem jn_next (ss : List ByteArray) (sep : ByteArray) (k : Nat) (h : k < ss.length) (h0 : 0 < k) : jn (ss.take (k + 1)) sep = jn (ss.take k) sep ++ sep.data.toList ++ ss[k].data.toList := by
  rw [take_next ss k h]
  match hss : ss.take k with
  | [] =>
    have := congrArg List.length hss
    rw [List.length_take, List.length_nil] at this
    omega
  | y :: l => exact jn_snoc y l ss[k] sep
theorem jn_first (ss : List ByteArray) (sep : ByteArray) (h : 0 < ss.length) : jn (ss.take 1) sep = ss[0].data.toList := by
  rw [take_next ss 0 h]
  exact jn_one _ _

theorem total_take (ss : List ByteArray) (k : Nat) : total (ss.take k) ≤ total ss := by
  have h := total_append (ss.take k) (ss.drop k)
  rw [List.take_append_drop] at h
  omega
theorem jn_bound (ss : List ByteArray) (sep : ByteArray) (k : Nat) : (jn (ss.take k) sep).length ≤ ss.length * sep.size + total ss := by
  have h1 := jn_length (ss.take k) sep
  have h2 := total_take ss k
  have h3 : (ss.take k).length * sep.size ≤ ss.length * sep.size := Nat.mul_le_mul_right _ (by rw [List.length_take]; omega)
  omega

/-- string(b), b bytes of the call's own. -/
theorem string_owned {P : Program} {w : World} {base e n : Nat} {v : Value} {l : List UInt8} (src dst : TypeId) (hs : P.underlying src = some (.slice e)) (he : P.underlying e = some (.int .u8)) (hd : P.underlying dst = some .string)
    (h : w.ownsRow base e 1 v n (Lib.byteCells l)) : (convert src dst v).run P w = .ok (.string ⟨l.toArray⟩) w := by
  have hl := h.1
  rw [Lib.byteCells_length, Nat.mul_one] at hl
  rcases h.2 with ⟨rfl, hn⟩ | ⟨g, cap, cur, rfl, _, _, _⟩
  · have : l = [] := List.eq_nil_of_length_eq_zero (by omega)
    subst this
    rw [run_convert_bytes_string w src dst e none 0 0 hs he hd]
    rfl
  · have hc := h.cells (g := g) rfl
    rw [← hl]
    refine run_convert_bytes_back w src dst e ⟨g, 0, none⟩ cap l hs he hd fun j hj => hc j _ ?_
    simp [Lib.byteCells, List.getElem?_eq_getElem hj]
end Go.Proofs.YtplchhahjmoodaaGreatDoor
