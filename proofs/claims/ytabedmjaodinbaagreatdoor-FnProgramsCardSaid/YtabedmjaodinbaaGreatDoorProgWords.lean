/-
  The text of a program as a list of bytes; bounds. Nothing here knows of the program's own text.
-/
import Derived.Test.YtabedmjaodinbaaGreatDoorIsProg
import Derived.Test.YtabedmjaodinbaaGreatDoorJoinWords
import Derived.Test.YtabedmjaodinbaaGreatDoorStmtText
import Derived.Lib.ItoaLen
namespace Go.Proofs.YtabedmjaodinbaaGreatDoor
open Go Go.RowKit

def edL (x : Ed) : List UInt8 := Lib.itoa x.f ++ 32 :: (Lib.itoa x.t ++ 32 :: (textS x.k x.a x.b).data.toList)
def progL (ss : List ByteArray) (p : Int) (es : List Ed) : List UInt8 := jn ss ⟨#[32]⟩ ++ 59 :: (Lib.itoa p ++ es.flatMap fun x => 59 :: edL x)
def progT (ss : List ByteArray) (p : Int) (es : List Ed) : ByteArray := if progB ss p es = true then ⟨(progL ss p es).toArray⟩ else ⟨#[]⟩
theorem progT_yes {ss : List ByteArray} {p : Int} {es : List Ed} (h : progB ss p es = true) : progT ss p es = ⟨(progL ss p es).toArray⟩ := by rw [progT, if_pos h]
theorem progT_no {ss : List ByteArray} {p : Int} {es : List Ed} (h : progB ss p es = false) : progT ss p es = ⟨#[]⟩ := by rw [progT, if_neg (by simp [h])]

theorem progL_next (ss : List ByteArray) (p : Int) (es : List Ed) (k : Nat) (h : k < es.length) : progL ss p (es.take (k + 1)) = progL ss p (es.take k) ++ 59 :: edL es[k] := by
  unfold progL
  rw [take_next es k h, List.flatMap_append]
  simp only [List.append_assoc, List.cons_append, List.flatMap_cons, List.flatMap_nil, List.append_nil]

theorem name_size {s : ByteArray} (h : goodName s = true) : s.size ≤ 2 := by
  simp only [goodName, decide_eq_true_eq] at h
  exact h.2.2
theorem total_le {ss : List ByteArray} {n : Nat} (h : ∀ s ∈ ss, s.size ≤ n) : total ss ≤ ss.length * n := by
  induction ss with
  | nil => simp [total]
  | cons s r ih =>
    have h1 := h s (by simp)
    have h2 := ih fun x hx => h x (by simp [hx])
    simp only [total, List.map_cons, List.sum_cons, List.length_cons, Nat.add_mul, Nat.one_mul] at h2 ⊢
    omega
theorem vars_small {ss : List ByteArray} (h : goodVars ss = true) : ss.length ≤ 4 ∧ total ss ≤ 8 := by
  have h1 := (of_decide_eq_true h).2
  have h2 : total ss ≤ ss.length * 2 := total_le fun s hs => by
    obtain ⟨k, hk, rfl⟩ := List.mem_iff_getElem.1 hs
    exact name_size (vars_at h hk).1
  omega
theorem bodyL_length (k : Int) (a b : List UInt8) (ha : a.length ≤ 2) (hb : b.length ≤ 2) : (bodyL k a b).length ≤ 12 := by
  unfold bodyL
  simp only [apply_ite List.length, List.length_append, List.length_cons, List.length_nil]
  by_cases h1 : k = 1
  · simp only [if_pos h1]; omega
  by_cases h2 : k = 2
  · simp only [if_neg h1, if_pos h2]; omega
  by_cases h3 : k = 3
  · simp only [if_neg h1, if_neg h2, if_pos h3]; omega
  by_cases h4 : k = 4
  · simp only [if_neg h1, if_neg h2, if_neg h3, if_pos h4]; omega
  by_cases h5 : k = 5
  · simp only [if_neg h1, if_neg h2, if_neg h3, if_neg h4, if_pos h5]; omega
  by_cases h6 : k = 6
  · simp only [if_neg h1, if_neg h2, if_neg h3, if_neg h4, if_neg h5, if_pos h6]; omega
  by_cases h7 : k = 7
  · simp only [if_neg h1, if_neg h2, if_neg h3, if_neg h4, if_neg h5, if_neg h6, if_pos h7]; omega
  by_cases h8 : k = 8
  · simp only [if_neg h1, if_neg h2, if_neg h3, if_neg h4, if_neg h5, if_neg h6, if_neg h7, if_pos h8]; omega
  by_cases h9 : k = 9
  · simp only [if_neg h1, if_neg h2, if_neg h3, if_neg h4, if_neg h5, if_neg h6, if_neg h7, if_neg h8, if_pos h9]; omega
  by_cases h10 : k = 10
  · simp only [if_neg h1, if_neg h2, if_neg h3, if_neg h4, if_neg h5, if_neg h6, if_neg h7, if_neg h8, if_neg h9, if_pos h10]; omega
  by_cases h11 : k = 11
  · simp only [if_neg h1, if_neg h2, if_neg h3, if_neg h4, if_neg h5, if_neg h6, if_neg h7, if_neg h8, if_neg h9, if_neg h10, if_pos h11]; omega
  by_cases h12 : k = 12
  · simp only [if_neg h1, if_neg h2, if_neg h3, if_neg h4, if_neg h5, if_neg h6, if_neg h7, if_neg h8, if_neg h9, if_neg h10, if_neg h11, if_pos h12]; omega
  simp only [if_neg h1, if_neg h2, if_neg h3, if_neg h4, if_neg h5, if_neg h6, if_neg h7, if_neg h8, if_neg h9, if_neg h10, if_neg h11, if_neg h12]; omega
theorem textS_small (k : Int) (a b : ByteArray) : (textS k a b).data.toList.length ≤ 12 := by
  by_cases h : canS a (decide (1 ≤ namesN k)) = true ∧ canS b (decide (2 ≤ namesN k)) = true
  · have ha := canS_size h.1
    have hb := canS_size h.2
    rw [canS_list, canS_list] at h
    rw [textS_data, textL, if_pos (by simp [okL, h.1, h.2])]
    exact bodyL_length _ _ _ (by simpa using ha) (by simpa using hb)
  · rw [textS_no h]
    simp
theorem edL_length (x : Ed) (hx : x.Ok) : (edL x).length ≤ 56 := by
  have h1 := Lib.itoa_length_le x.f hx.f.1 hx.f.2
  have h2 := Lib.itoa_length_le x.t hx.t.1 hx.t.2
  have h3 := textS_small x.k x.a x.b
  simp only [edL, List.length_append, List.length_cons]
  omega
theorem flat_length (es : List Ed) (h : ∀ x ∈ es, x.Ok) : (es.flatMap fun x => 59 :: edL x).length ≤ es.length * 57 := by
  induction es with
  | nil => simp
  | cons x r ih =>
    have h1 := edL_length x (h x (by simp))
    have h2 := ih fun y hy => h y (by simp [hy])
    simp only [List.flatMap_cons, List.length_append, List.length_cons, Nat.add_mul, Nat.one_mul] at h2 ⊢
    omega
theorem progL_length (ss : List ByteArray) (p : Int) (es : List Ed) (hs : goodVars ss = true) (hp : -9223372036854775808 ≤ p ∧ p ≤ 9223372036854775807) (h : ∀ x ∈ es, x.Ok) : (progL ss p es).length ≤ 34 + es.length * 57 := by
  have h0 := vars_small hs
  have h1 := jn_length ss ⟨#[32]⟩
  rw [show (⟨#[32]⟩ : ByteArray).size = 1 from rfl] at h1
  have h2 := Lib.itoa_length_le p hp.1 hp.2
  have h3 := flat_length es h
  simp only [progL, List.length_append, List.length_cons]
  omega

theorem join_flat (y : List UInt8) (l : List (List UInt8)) (sep : List UInt8) : Lib.join (y :: l) sep = y ++ l.flatMap fun x => sep ++ x := by
  rw [Lib.join_cons]
  rfl
theorem jn_parts (A B : List UInt8) (es : List Ed) : jn (⟨A.toArray⟩ :: ⟨B.toArray⟩ :: es.map fun x => ⟨(edL x).toArray⟩) ⟨#[59]⟩ = A ++ 59 :: (B ++ es.flatMap fun x => 59 :: edL x) := by
  simp [jn, join_flat, List.flatMap_map]
theorem jn_fields (x : Ed) : jn [⟨(Lib.itoa x.f).toArray⟩, ⟨(Lib.itoa x.t).toArray⟩, textS x.k x.a x.b] ⟨#[32]⟩ = edL x := by
  simp [jn, join_flat, edL]
theorem mk_append (l : List UInt8) (b : ByteArray) : (⟨l.toArray⟩ : ByteArray) ++ b = ⟨(l ++ b.data.toList).toArray⟩ := by
  apply bytes_ext
  simp
theorem mk_size (l : List UInt8) : (⟨l.toArray⟩ : ByteArray).size = l.length := rfl
end Go.Proofs.YtabedmjaodinbaaGreatDoor
