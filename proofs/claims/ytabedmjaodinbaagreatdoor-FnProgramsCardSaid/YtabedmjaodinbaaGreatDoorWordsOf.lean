/-
  The model's words of a text: the longest words of small letters, in a new row.
-/
import Derived.Test.YtabedmjaodinbaaGreatDoorSyntax
import Derived.Test.YtabedmjaodinbaaGreatDoorNewStrs
namespace Go.Proofs.YtabedmjaodinbaaGreatDoor
open Go Go.RowKit

def lS (l : List UInt8) : ByteArray := ⟨l.toArray⟩
theorem lS_data (l : List UInt8) : (lS l).data.toList = l := rfl
theorem lS_size (l : List UInt8) : (lS l).size = l.length := rfl
def wordsS (s : ByteArray) : List ByteArray := (wordsFrom s.data.toList []).map lS
theorem strVals_lS (qs : List (List UInt8)) (l : List UInt8) : strVals (qs.map lS) ++ [.string (lS l)] = strVals ((qs ++ [l]).map lS) := by simp [strVals]
theorem lS_snoc (l : List UInt8) (s : ByteArray) (k : Nat) (h : k < s.size) : lS l ++ s.extract k (k + 1) = lS (l ++ [s[k]]) := by
  apply bytes_ext
  have hl : k < s.data.toList.length := by simpa using h
  rw [ByteArray.data_append, Array.toList_append, lS_data, lS_data, Lib.extract_data, show k + 1 - k = 1 from by omega, List.drop_eq_getElem_cons hl, List.take_succ_cons, List.take_zero]
  rfl
theorem words_small {s : ByteArray} {k : Nat} (h : k < s.size) (cur : List UInt8) (hc : small s[k] = true) : wordsFrom (s.data.toList.drop k) cur = wordsFrom (s.data.toList.drop (k + 1)) (cur ++ [s[k]]) := by
  have hl : k < s.data.toList.length := by simpa using h
  rw [List.drop_eq_getElem_cons hl, wordsFrom, if_pos (by exact hc)]
  rfl
theorem words_other {s : ByteArray} {k : Nat} (h : k < s.size) (cur : List UInt8) (hc : small s[k] = false) : wordsFrom (s.data.toList.drop k) cur = if cur.isEmpty then wordsFrom (s.data.toList.drop (k + 1)) [] else cur :: wordsFrom (s.data.toList.drop (k + 1)) [] := by
  have hl : k < s.data.toList.length := by simpa using h
  rw [List.drop_eq_getElem_cons hl, wordsFrom, if_neg (by rw [show small s.data.toList[k] = small s[k] from rfl, hc]; decide)]
theorem words_end {s : ByteArray} (cur : List UInt8) : wordsFrom (s.data.toList.drop s.size) cur = if cur.isEmpty then [] else [cur] := by
  rw [List.drop_eq_nil_of_le (by simp), wordsFrom]
theorem small_of {c : UInt8} (h1 : ¬ (c.toNat : Int) < 97) (h2 : ¬ 122 < (c.toNat : Int)) : small c = true := by
  simp only [small, Bool.and_eq_true, decide_eq_true_eq]
  omega
theorem small_lo {c : UInt8} (h1 : (c.toNat : Int) < 97) : small c = false := by
  simp only [small, Bool.and_eq_false_iff, decide_eq_false_iff_not]
  omega
theorem small_hi {c : UInt8} (h1 : 122 < (c.toNat : Int)) : small c = false := by
  simp only [small, Bool.and_eq_false_iff, decide_eq_false_iff_not]
  omega

/-- What holds at a round's head: the words so far, the word under way. -/
def Going (s : ByteArray) (k : Nat) (qs : List (List UInt8)) (cur : List UInt8) : Prop := (k ≤ s.size → qs ++ wordsFrom (s.data.toList.drop k) cur = wordsFrom s.data.toList []) ∧ (s.size < k → qs = wordsFrom s.data.toList [])

/-- The word under way ends at k. -/
theorem going_flush {s : ByteArray} {k : Nat} {qs : List (List UInt8)} {cur : List UInt8} (h : Going s k qs cur) (hk : k < s.size) (hc : small s[k] = false) : Going s (k + 1) (if cur.isEmpty then qs else qs ++ [cur]) [] := by
  refine ⟨fun _ => ?_, fun h2 => by omega⟩
  have h1 := h.1 (by omega)
  rw [words_other hk cur hc] at h1
  cases cur with
  | nil => simpa using h1
  | cons x l => simpa using h1
theorem going_last {s : ByteArray} {qs : List (List UInt8)} {cur : List UInt8} (h : Going s s.size qs cur) : Going s (s.size + 1) (if cur.isEmpty then qs else qs ++ [cur]) [] := by
  refine ⟨fun h2 => by omega, fun _ => ?_⟩
  have h1 := h.1 (Nat.le_refl _)
  rw [words_end cur] at h1
  cases cur with
  | nil => simpa using h1
  | cons x l => simpa using h1
theorem going_next {s : ByteArray} {k : Nat} {qs : List (List UInt8)} {cur : List UInt8} (h : Going s k qs cur) (hk : k < s.size) (hc : small s[k] = true) : Going s (k + 1) qs (cur ++ [s[k]]) := by
  refine ⟨fun _ => ?_, fun h2 => by omega⟩
  have h1 := h.1 (by omega)
  rw [words_small hk cur hc] at h1
  exact h1

set_option maxRecDepth 100000 in
set_option maxHeartbeats 1600000 in
theorem specWords (s : ByteArray) (w : World) (hs : s.size ≤ 1099511627776) : Calls Tryz.prog 99 #[.string s] w (StrsEnd (wordsS s) w) := by
  obtain ⟨i0, hi, hz0, hz1, hz2⟩ := info_parts strInfo
  go_enter Tryz.func99, Tryz.ntmps99
  go_wp2
  go_loopw [3, 4, 5] (fun v u i wr => ∃ (k m : Nat) (qs : List (List UInt8)) (cur : List UInt8), k ≤ s.size + 1 ∧ i = .int .i64 k ∧ u = .string (lS cur) ∧ cur.length ≤ k ∧ m = qs.length ∧ m ≤ k ∧ wr.ownsRow w.heap.size 9 1 v m (strVals (qs.map lS)) ∧ Below w.heap.size w wr ∧ Going s k qs cur)
    (fun _ _ i _ => s.size + 1 - (intOf i).toNat)
  case atStart => exact ⟨0, 0, [], [], by omega, rfl, rfl, by simp, rfl, Nat.le_refl _, World.ownsRow_made w #[] 0 (Nat.le_refl _) (Nat.zero_le _) rfl, (Below.refl _ _).alloc (Nat.le_refl _) _, fun _ => by simp, fun h => by omega⟩
  case round =>
    obtain ⟨k, m, qs, cur, hk, rfl, rfl, hcl, hm, hmk, hown, hbw, hgo⟩ := hrel
    have Hm := Lib.hid hm
    have Hown := Lib.hid hown
    have Hgo := Lib.hid hgo
    clear hm hown hgo
    by_cases hend : s.size < k
    · have Hq := Lib.hid (Hgo.out.2 hend)
      go_wp2
      go_ret
      have hown2 := Hown.out
      rw [Hq.out] at hown2
      exact strs_end (by rw [wordsS, List.length_map, ← Hq.out]; exact Hm.out) hown2 hbw
    · by_cases hlt : k < s.size
      · by_cases hok : (¬ (s[k].toNat : Int) < 97) ∧ ¬ 122 < (s[k].toNat : Int)
        · obtain ⟨hlo, hhi⟩ := hok
          have Hgo2 := Lib.hid (going_next Hgo.out hlt (small_of hlo hhi))
          have Hsn := Lib.hid (lS_snoc cur s k hlt)
          have hsz : (lS cur).size ≤ k := hcl
          have q0 : (0 : Int) ≤ (k : Int) := by omega
          have q1 : (k : Int) ≤ (k : Int) + 1 := by omega
          have q2 : (k : Int) + 1 ≤ (s.size : Int) := by omega
          go_wp2
          go_roundw
          case rel => exact ⟨k + 1, m, qs, cur ++ [s[k]], by omega, by go_num, by rw [← Hsn.out], by simp; omega, Hm.out, by omega, Hown.out, hbw, Hgo2.out⟩
          case measure => simp [intOf]; omega
        · by_cases hlo : (s[k].toNat : Int) < 97
          · have hlo2 : ¬ (97 : Int) ≤ (s[k].toNat : Int) := by omega
            cases hcur : cur.isEmpty with
            | true =>
              have Hgo2 := Lib.hid (show Going s (k + 1) qs [] from by have h := going_flush Hgo.out hlt (small_lo hlo); rwa [hcur] at h)
              have he : (lS cur).toList.isEmpty = true := by rw [ByteArray.toList_eq, lS_data]; exact hcur
              have he2 : (!(lS cur).toList.isEmpty) = false := by rw [he]; rfl
              clear hcur
              go_wp2
              go_roundw
              case rel => exact ⟨k + 1, m, qs, [], by omega, by go_num, rfl, by simp, Hm.out, by omega, Hown.out, hbw, Hgo2.out⟩
              case measure => simp [intOf]; omega
            | false =>
              have Hgo2 := Lib.hid (show Going s (k + 1) (qs ++ [cur]) [] from by have h := going_flush Hgo.out hlt (small_lo hlo); rwa [hcur] at h)
              have he : (lS cur).toList.isEmpty = false := by rw [ByteArray.toList_eq, lS_data]; exact hcur
              have he2 : (!(lS cur).toList.isEmpty) = true := by rw [he]; rfl
              clear hcur
              go_wp2_with (at_builtin; refine wpList_append_own _ rfl (.tmp 38) (.tmp 40) 24 rfl w.heap.size 9 i0 (.string ⟨#[]⟩) 1 16 Tryz.underlying24 hi hz0 hz1 hz2 rfl (by decide) _ m _ rfl (Hown.out.alloc _) ⟨wr.heap.size, 0, none⟩ 1 1 [.string (lS cur)] rfl rfl (cell_one _) (string_oneCell _) (by unfold maxLen; omega) (by omega) (Nat.le_trans hbw.size (by simp)) ?_; intro v2 w2 hown2 hg2 _; have hb2 := own_below (Hown.out.alloc _) hg2 (Nat.le_trans hbw.size (by simp)) (hbw.alloc hbw.size _); clear hg2)
              go_roundw
              case rel => exact ⟨k + 1, m + 1, qs ++ [cur], [], by omega, by go_num, rfl, by simp, by rw [List.length_append, List.length_singleton, Hm.out], by omega, by rw [← strVals_lS]; exact hown2, hb2, Hgo2.out⟩
              case measure => simp [intOf]; omega
          · have hhi : 122 < (s[k].toNat : Int) := by omega
            have hhi2 : ¬ (s[k].toNat : Int) ≤ 122 := by omega
            cases hcur : cur.isEmpty with
            | true =>
              have Hgo2 := Lib.hid (show Going s (k + 1) qs [] from by have h := going_flush Hgo.out hlt (small_hi hhi); rwa [hcur] at h)
              have he : (lS cur).toList.isEmpty = true := by rw [ByteArray.toList_eq, lS_data]; exact hcur
              have he2 : (!(lS cur).toList.isEmpty) = false := by rw [he]; rfl
              clear hcur
              go_wp2
              go_roundw
              case rel => exact ⟨k + 1, m, qs, [], by omega, by go_num, rfl, by simp, Hm.out, by omega, Hown.out, hbw, Hgo2.out⟩
              case measure => simp [intOf]; omega
            | false =>
              have Hgo2 := Lib.hid (show Going s (k + 1) (qs ++ [cur]) [] from by have h := going_flush Hgo.out hlt (small_hi hhi); rwa [hcur] at h)
              have he : (lS cur).toList.isEmpty = false := by rw [ByteArray.toList_eq, lS_data]; exact hcur
              have he2 : (!(lS cur).toList.isEmpty) = true := by rw [he]; rfl
              clear hcur
              go_wp2_with (at_builtin; refine wpList_append_own _ rfl (.tmp 38) (.tmp 40) 24 rfl w.heap.size 9 i0 (.string ⟨#[]⟩) 1 16 Tryz.underlying24 hi hz0 hz1 hz2 rfl (by decide) _ m _ rfl (Hown.out.alloc _) ⟨wr.heap.size, 0, none⟩ 1 1 [.string (lS cur)] rfl rfl (cell_one _) (string_oneCell _) (by unfold maxLen; omega) (by omega) (Nat.le_trans hbw.size (by simp)) ?_; intro v2 w2 hown2 hg2 _; have hb2 := own_below (Hown.out.alloc _) hg2 (Nat.le_trans hbw.size (by simp)) (hbw.alloc hbw.size _); clear hg2)
              go_roundw
              case rel => exact ⟨k + 1, m + 1, qs ++ [cur], [], by omega, by go_num, rfl, by simp, by rw [List.length_append, List.length_singleton, Hm.out], by omega, by rw [← strVals_lS]; exact hown2, hb2, Hgo2.out⟩
              case measure => simp [intOf]; omega
      · have hks : k = s.size := by omega
        have Hks := Lib.hid hks
        clear hks
        cases hcur : cur.isEmpty with
        | true =>
          have Hgo2 := Lib.hid (show Going s (k + 1) qs [] from by have h := going_last (s := s) (qs := qs) (cur := cur) (by rw [← Hks.out]; exact Hgo.out); rw [← Hks.out] at h; rwa [hcur] at h)
          have he : (lS cur).toList.isEmpty = true := by rw [ByteArray.toList_eq, lS_data]; exact hcur
          have he2 : (!(lS cur).toList.isEmpty) = false := by rw [he]; rfl
          clear hcur
          go_wp2
          go_roundw
          case rel => exact ⟨k + 1, m, qs, [], by omega, by go_num, rfl, by simp, Hm.out, by omega, Hown.out, hbw, Hgo2.out⟩
          case measure => simp [intOf]; omega
        | false =>
          have Hgo2 := Lib.hid (show Going s (k + 1) (qs ++ [cur]) [] from by have h := going_last (s := s) (qs := qs) (cur := cur) (by rw [← Hks.out]; exact Hgo.out); rw [← Hks.out] at h; rwa [hcur] at h)
          have he : (lS cur).toList.isEmpty = false := by rw [ByteArray.toList_eq, lS_data]; exact hcur
          have he2 : (!(lS cur).toList.isEmpty) = true := by rw [he]; rfl
          clear hcur
          go_wp2_with (at_builtin; refine wpList_append_own _ rfl (.tmp 38) (.tmp 40) 24 rfl w.heap.size 9 i0 (.string ⟨#[]⟩) 1 16 Tryz.underlying24 hi hz0 hz1 hz2 rfl (by decide) _ m _ rfl (Hown.out.alloc _) ⟨wr.heap.size, 0, none⟩ 1 1 [.string (lS cur)] rfl rfl (cell_one _) (string_oneCell _) (by unfold maxLen; omega) (by omega) (Nat.le_trans hbw.size (by simp)) ?_; intro v2 w2 hown2 hg2 _; have hb2 := own_below (Hown.out.alloc _) hg2 (Nat.le_trans hbw.size (by simp)) (hbw.alloc hbw.size _); clear hg2)
          go_roundw
          case rel => exact ⟨k + 1, m + 1, qs ++ [cur], [], by omega, by go_num, rfl, by simp, by rw [List.length_append, List.length_singleton, Hm.out], by omega, by rw [← strVals_lS]; exact hown2, hb2, Hgo2.out⟩
          case measure => simp [intOf]; omega
end Go.Proofs.YtabedmjaodinbaaGreatDoor
