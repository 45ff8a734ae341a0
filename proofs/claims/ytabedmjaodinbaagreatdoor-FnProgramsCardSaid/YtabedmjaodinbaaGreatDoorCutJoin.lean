/-
  Joining what was cut restores it; a piece holds no separator. Nothing here knows of the program.
-/
import Derived.Test.YtabedmjaodinbaaGreatDoorCutWords
import Derived.Test.YtabedmjaodinbaaGreatDoorJoinWords
namespace Go.Proofs.YtabedmjaodinbaaGreatDoor
open Go

theorem join_cut (c : UInt8) : ∀ l : List UInt8, Lib.join (cut c l) [c] = l
  | [] => rfl
  | x :: r => by
    have ih := join_cut c r
    match hc : cut c r with
    | [] => exact absurd hc (cut_ne c r)
    | h :: t =>
      rw [hc, Lib.join_cons] at ih
      unfold cut
      by_cases hx : x = c
      · rw [if_pos hx, hc, Lib.join_cons, hx, ← ih]
        simp [Lib.joinTail]
      · rw [if_neg hx, hc]
        show Lib.join ((x :: h) :: t) [c] = x :: r
        rw [Lib.join_cons, ← ih]
        rfl
theorem pieces_lists (c : UInt8) (s : ByteArray) : (pieces c s).map (·.data.toList) = cut c s.data.toList := by
  rw [pieces, List.map_map]
  conv => rhs; rw [← List.map_id (cut c s.data.toList)]
  rfl
theorem jn_pieces (c : UInt8) (s : ByteArray) : jn (pieces c s) ⟨#[c]⟩ = s.data.toList := by
  rw [jn, pieces_lists]
  exact join_cut c _
theorem joined_back (c : UInt8) (s : ByteArray) : (⟨(jn (pieces c s) ⟨#[c]⟩).toArray⟩ : ByteArray) = s := by
  rw [jn_pieces]
theorem total_pieces (c : UInt8) (s : ByteArray) : total (pieces c s) ≤ s.size := by
  have h := jn_pieces c s
  have h2 := lens_total (pieces c s)
  rw [jn] at h
  match hp : (pieces c s).map (·.data.toList) with
  | [] =>
    rw [hp] at h2
    rw [← h2]
    simp [Lib.lens]
  | x :: r =>
    rw [hp] at h h2
    have h3 := Lib.join_length x r [c]
    have h4 : (Lib.join (x :: r) [c]).length = s.size := by
      have : Lib.join (x :: r) [c] = s.data.toList := h
      rw [this]
      simp
    rw [← h2]
    omega
theorem pieces_whole (c : UInt8) (s p : ByteArray) (h : p ∈ pieces c s) : (pieces c p).length = 1 := by
  obtain ⟨l, hl, rfl⟩ := List.mem_map.1 h
  rw [pieces, mkS_toList, cut_none c l (cut_pieces c _ l hl)]
  rfl
theorem mem_total (p : ByteArray) : ∀ ss : List ByteArray, p ∈ ss → p.size ≤ total ss
  | [], h => by simp at h
  | q :: r, h => by
    have e : total (q :: r) = q.size + total r := by simp [total]
    rw [e]
    rcases List.mem_cons.1 h with rfl | h
    · omega
    · have := mem_total p r h
      omega
theorem piece_size (c : UInt8) (s p : ByteArray) (h : p ∈ pieces c s) : p.size ≤ s.size := by
  have h1 := total_pieces c s
  have h2 := mem_total p _ h
  omega
end Go.Proofs.YtabedmjaodinbaaGreatDoor
