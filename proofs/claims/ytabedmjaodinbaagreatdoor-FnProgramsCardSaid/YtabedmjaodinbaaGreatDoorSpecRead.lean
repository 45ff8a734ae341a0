/-
  The model's reader of numerals: at every string it returns the number whose numeral the string is, if it has at most so many digits; else 0 and false.
-/
import Derived.Test.YtabedmjaodinbaaGreatDoorNumerals
import Derived.Test.YtabedmjaodinbaaGreatDoorSpecFormat
namespace Go.Proofs.YtabedmjaodinbaaGreatDoor
open Go Go.RowKit

def ReadEnd (most : Nat) (l : List UInt8) (w : World) (e : Ending) (w' : World) : Prop :=
  e = .returned (.tuple #[.int .i64 (if goodFor most l = true then valOf l else 0), .bool (goodFor most l)]) ∧ Below w.heap.size w w'

theorem read_bad {most : Nat} {l : List UInt8} {w w' : World} (h : goodFor most l = false) (hb : Below w.heap.size w w') : ReadEnd most l w (.returned (.tuple #[.int .i64 0, .bool false])) w' := by
  refine ⟨?_, hb⟩
  rw [h]
  rfl
theorem read_good {most : Nat} {l : List UInt8} {v : Int} {w w' : World} (h : goodFor most l = true) (hv : valOf l = v) (hb : Below w.heap.size w w') : ReadEnd most l w (.returned (.tuple #[.int .i64 v, .bool true])) w' := by
  refine ⟨?_, hb⟩
  rw [h, hv]
  rfl
theorem bytes_take (s : ByteArray) (k : Nat) (h : k < s.size) : s.data.toList.take (k + 1) = s.data.toList.take k ++ [s[k]] := by
  rw [List.take_succ_eq_append_getElem (by simpa using h)]
  rfl
theorem dval_bound (l : List UInt8) (k : Nat) (h : (l.take k).all isDig = true) (hk : k ≤ 12) : dval (l.take k) ≤ 999999999999 := by
  have h1 := dval_lt _ h
  have h2 : 10 ^ (l.take k).length ≤ 10 ^ 12 := Nat.pow_le_pow_right (by omega) (by rw [List.length_take]; omega)
  omega

theorem plain_bad {most : Nat} {s : ByteArray} (hbody : bodyOf s.data.toList = s.data.toList) {k : Nat} (hk : k < s.size) (h : isDig s[k] = false) : goodFor most s.data.toList = false := by
  simp only [goodFor, hbody, decide_eq_false_iff_not]
  intro hh
  have hm : s[k] ∈ s.data.toList := by
    have : s[k] = s.data.toList[k]'(by simpa using hk) := rfl
    rw [this]
    exact List.getElem_mem _
  have := List.all_eq_true.1 hh.2.2.1 _ hm
  rw [h] at this
  cases this

set_option maxRecDepth 100000 in
set_option maxHeartbeats 800000 in
/-- No sign ahead. -/
theorem specRead_plain (s : ByteArray) (most : Nat) (w : World) (hm : most ≤ 12) (hs : s.size ≤ maxLen) (h0 : 0 < s.size) (hc : ¬ s[0].toNat = 45) :
    Calls Tryz.prog 84 #[.string s, .int .i64 most] w (ReadEnd most s.data.toList w) := by
  unfold maxLen at hs
  have hb : ((s[0].toNat : Int) == 45) = false := by simp; omega
  have hhead : s.data.toList.head? ≠ some 45 := by
    have e : s.data.toList.head? = some s[0] := by
      rw [List.head?_eq_getElem?, List.getElem?_eq_getElem (by simpa using h0)]
      rfl
    rw [e]
    intro h
    have := Option.some.inj h
    rw [this] at hc
    exact hc rfl
  have hbody : bodyOf s.data.toList = s.data.toList := by rw [bodyOf, if_neg hhead]
  have hval : valOf s.data.toList = (dval s.data.toList : Int) := by rw [valOf, if_neg hhead, hbody]
  have hlen : s.data.toList.length = s.size := by simp
  by_cases hmost : most < s.size
  · have hbad : goodFor most s.data.toList = false := by
      simp only [goodFor, hbody, hlen, decide_eq_false_iff_not]
      omega
    have Hbad := Lib.hid hbad
    clear hbad hbody hval hlen
    go_enter Tryz.func84, Tryz.ntmps84
    go_wp2
    go_ret2
    exact read_bad Hbad.out (Below.refl _ _)
  · have Hbody := Lib.hid hbody
    have Hval := Lib.hid hval
    have Hlen := Lib.hid hlen
    clear hbody hval hlen
    go_enter Tryz.func84, Tryz.ntmps84
    go_wp2
    go_loop [8, 9] (fun n i => ∃ (k m : Nat), k ≤ s.size ∧ i = .int .i64 k ∧ n = .int .i64 m ∧ m = dval (s.data.toList.take k) ∧ (s.data.toList.take k).all isDig = true) (fun _ i => s.size - (intOf i).toNat)
    case atStart => exact ⟨0, 0, Nat.zero_le _, rfl, rfl, rfl, rfl⟩
    case round =>
      obtain ⟨k, m, hk, rfl, rfl, hmv, hall⟩ := hrel
      have hbd := dval_bound _ k hall (by omega)
      rw [← hmv] at hbd
      by_cases hlt : k < s.size
      · have htk := bytes_take s k hlt
        have htkH := Lib.hid htk
        have Hmv := Lib.hid hmv
        have Hall := Lib.hid hall
        clear htk hmv hall
        by_cases hlo : (s[k].toNat : Int) < 48
        · have hbad : goodFor most s.data.toList = false := plain_bad Hbody.out hlt (by simp [isDig]; omega)
          have Hbad := Lib.hid hbad
          clear hbad
          go_wp2
          go_ret2
          exact read_bad Hbad.out (Below.refl _ _)
        · by_cases hhi : 57 < (s[k].toNat : Int)
          · have hbad : goodFor most s.data.toList = false := plain_bad Hbody.out hlt (by simp [isDig]; omega)
            have Hbad := Lib.hid hbad
            clear hbad
            go_wp2
            go_ret2
            exact read_bad Hbad.out (Below.refl _ _)
          · go_wp2
            go_round
            case rel => exact ⟨k + 1, 10 * m + (s[k].toNat - 48), by omega, by go_num, by congr 1; omega, by rw [htkH.out, dval_snoc, ← Hmv.out], by rw [htkH.out, List.all_append, Hall.out]; simp [isDig]; omega⟩
            case measure => simp [intOf]; omega
      · have hk' : k = s.size := by omega
        have hfull : s.data.toList.take k = s.data.toList := List.take_of_length_le (by rw [Hlen.out]; omega)
        rw [hfull] at hmv hall
        by_cases heq : Lib.itoa (m : Int) = s.data.toList
        · have hgood : goodFor most s.data.toList = true := by
            simp only [goodFor, Hbody.out, Hval.out, Hlen.out, decide_eq_true_eq, ← hmv]
            exact ⟨by omega, by omega, hall, heq⟩
          have hv : valOf s.data.toList = (m : Int) := by rw [Hval.out, hmv]
          have hne : (Lib.itoa (m : Int) == s.toList) = true := lists_eq heq
          have Hgood := Lib.hid hgood
          have Hv := Lib.hid hv
          have Hk := Lib.hid hk'
          clear hgood hv hfull hmv hall heq hk'
          go_wp2_with fail
          refine (specFormat m (by omega) (by omega) _).mono ?_
          rintro e w1 ⟨rfl, hb1⟩
          go_wp2
          go_ret2
          exact read_good Hgood.out Hv.out hb1
        · have hgood : goodFor most s.data.toList = false := by
            simp only [goodFor, Hbody.out, Hval.out, decide_eq_false_iff_not, ← hmv]
            exact fun h => heq h.2.2.2
          have hne : (Lib.itoa (m : Int) == s.toList) = false := lists_ne heq
          have Hgood := Lib.hid hgood
          have Hk := Lib.hid hk'
          clear hgood hfull hmv hall heq hk'
          go_wp2_with fail
          refine (specFormat m (by omega) (by omega) _).mono ?_
          rintro e w1 ⟨rfl, hb1⟩
          go_wp2
          go_ret2
          exact read_bad Hgood.out hb1
theorem cut_list (s : ByteArray) : (s.extract 1 s.size).data.toList = s.data.toList.tail := by
  simp
  exact List.take_of_length_le (by simp)
theorem tail_size (s : ByteArray) : (s.extract 1 s.size).size = s.size - 1 := by
  simp

theorem sign_bad {most : Nat} {s : ByteArray} (hbody : bodyOf s.data.toList = s.data.toList.tail) {k : Nat} (hk : k < (s.extract 1 s.size).size) (h : isDig (s.extract 1 s.size)[k] = false) : goodFor most s.data.toList = false := by
  simp only [goodFor, hbody, decide_eq_false_iff_not]
  intro hh
  have hm : (s.extract 1 s.size)[k] ∈ s.data.toList.tail := by
    have : (s.extract 1 s.size)[k] = (s.extract 1 s.size).data.toList[k]'(by simpa using hk) := rfl
    have hmem : (s.extract 1 s.size)[k] ∈ (s.extract 1 s.size).data.toList := by
      rw [this]
      exact List.getElem_mem _
    exact (cut_list s) ▸ hmem
  have := List.all_eq_true.1 hh.2.2.1 _ hm
  rw [h] at this
  cases this

theorem sign_head {s : ByteArray} (h0 : 0 < s.size) (hc : s[0].toNat = 45) : s.data.toList.head? = some 45 := by
  have e : s.data.toList.head? = some s[0] := by
    rw [List.head?_eq_getElem?, List.getElem?_eq_getElem (by simpa using h0)]
    rfl
  have e2 : s[0] = 45 := by
    apply UInt8.toNat_inj.1
    rw [hc]
    rfl
  rw [e, e2]

set_option maxRecDepth 100000 in
set_option maxHeartbeats 800000 in
/-- A sign ahead. -/
theorem specRead_sign (s : ByteArray) (most : Nat) (w : World) (hm : most ≤ 12) (hs : s.size ≤ maxLen) (h0 : 0 < s.size) (hc : s[0].toNat = 45) (hmost : s.size - 1 ≤ most) (h1 : 1 < s.size) :
    Calls Tryz.prog 84 #[.string s, .int .i64 most] w (ReadEnd most s.data.toList w) := by
  unfold maxLen at hs
  have hb : ((s[0].toNat : Int) == 45) = true := by simp; omega
  have hhead := sign_head h0 hc
  have hbody : bodyOf s.data.toList = s.data.toList.tail := by rw [bodyOf, if_pos hhead]
  have hval : valOf s.data.toList = -(dval s.data.toList.tail : Int) := by rw [valOf, if_pos hhead, hbody]
  have hlen : s.data.toList.tail.length = s.size - 1 := by simp
  have Hbody := Lib.hid hbody
  have Hval := Lib.hid hval
  have Hlen := Lib.hid hlen
  clear hbody hval hlen hc hhead
  go_enter Tryz.func84, Tryz.ntmps84
  go_wp2
  go_loop [8, 9] (fun n i => ∃ (k m : Nat), k ≤ s.size - 1 ∧ i = .int .i64 k ∧ n = .int .i64 m ∧ m = dval (s.data.toList.tail.take k) ∧ (s.data.toList.tail.take k).all isDig = true) (fun _ i => s.size - (intOf i).toNat)
  case atStart => exact ⟨0, 0, Nat.zero_le _, rfl, rfl, rfl, rfl⟩
  case round =>
    obtain ⟨k, m, hk, rfl, rfl, hmv, hall⟩ := hrel
    have hbd := dval_bound _ k hall (by omega)
    rw [← hmv] at hbd
    by_cases hlt : k < s.size - 1
    · have hkt : k < (s.extract 1 s.size).size := by rw [tail_size]; exact hlt
      have htk := bytes_take (s.extract 1 s.size) k hkt
      rw [cut_list] at htk
      have htkH := Lib.hid htk
      have Hmv := Lib.hid hmv
      have Hall := Lib.hid hall
      clear htk hmv hall
      by_cases hlo : ((s.extract 1 s.size)[k].toNat : Int) < 48
      · have hbad : goodFor most s.data.toList = false := sign_bad Hbody.out hkt (by simp only [isDig, decide_eq_false_iff_not]; omega)
        have Hbad := Lib.hid hbad
        clear hbad
        go_wp2
        go_ret2
        exact read_bad Hbad.out (Below.refl _ _)
      · by_cases hhi : 57 < ((s.extract 1 s.size)[k].toNat : Int)
        · have hbad : goodFor most s.data.toList = false := sign_bad Hbody.out hkt (by simp only [isDig, decide_eq_false_iff_not]; omega)
          have Hbad := Lib.hid hbad
          clear hbad
          go_wp2
          go_ret2
          exact read_bad Hbad.out (Below.refl _ _)
        · go_wp2
          go_round
          case rel => exact ⟨k + 1, 10 * m + ((s.extract 1 s.size)[k].toNat - 48), by omega, by go_num, by congr 1; omega, by rw [htkH.out, dval_snoc, ← Hmv.out], by rw [htkH.out, List.all_append, Hall.out]; simp only [isDig, List.all_cons, List.all_nil, Bool.and_true, Bool.true_and, decide_eq_true_eq]; omega⟩
          case measure => simp [intOf]; omega
    · have hk' : k = s.size - 1 := by omega
      have hfull : s.data.toList.tail.take k = s.data.toList.tail := List.take_of_length_le (by rw [Hlen.out]; omega)
      rw [hfull] at hmv hall
      by_cases heq : Lib.itoa (-(m : Int)) = s.data.toList
      · have hgood : goodFor most s.data.toList = true := by
          simp only [goodFor, Hbody.out, Hval.out, Hlen.out, decide_eq_true_eq, ← hmv]
          exact ⟨by omega, by omega, hall, heq⟩
        have hv : valOf s.data.toList = -(m : Int) := by rw [Hval.out, hmv]
        have hne : (Lib.itoa (-(m : Int)) == s.toList) = true := lists_eq heq
        have Hgood := Lib.hid hgood
        have Hv := Lib.hid hv
        have Hk := Lib.hid hk'
        clear hgood hv hfull hmv hall heq hk'
        go_wp2_with fail
        refine (specFormat _ (by omega) (by omega) _).mono ?_
        rintro e w1 ⟨rfl, hb1⟩
        go_wp2
        go_ret2
        exact read_good Hgood.out Hv.out hb1
      · have hgood : goodFor most s.data.toList = false := by
          simp only [goodFor, Hbody.out, Hval.out, decide_eq_false_iff_not, ← hmv]
          exact fun h => heq h.2.2.2
        have hne : (Lib.itoa (-(m : Int)) == s.toList) = false := lists_ne heq
        have Hgood := Lib.hid hgood
        have Hk := Lib.hid hk'
        clear hgood hfull hmv hall heq hk'
        go_wp2_with fail
        refine (specFormat _ (by omega) (by omega) _).mono ?_
        rintro e w1 ⟨rfl, hb1⟩
        go_wp2
        go_ret2
        exact read_bad Hgood.out hb1

/-- Too short, or too long. -/
theorem specRead_none (s : ByteArray) (most : Nat) (w : World) (h0 : s.size = 0) : Calls Tryz.prog 84 #[.string s, .int .i64 most] w (ReadEnd most s.data.toList w) := by
  have he : s = ByteArray.empty := by
    apply ByteArray.ext
    exact Array.eq_empty_of_size_eq_zero h0
  subst he
  clear h0
  have hbad : goodFor most ByteArray.empty.data.toList = false := by
    simp [goodFor, bodyOf]
  have Hbad := Lib.hid hbad
  clear hbad
  go_enter Tryz.func84, Tryz.ntmps84
  go_wp2
  go_ret2
  exact read_bad Hbad.out (Below.refl _ _)

set_option maxRecDepth 100000 in
theorem specRead_cut (s : ByteArray) (most : Nat) (w : World) (hm : most ≤ 12) (hs : s.size ≤ maxLen) (h0 : 0 < s.size) (hc : s[0].toNat = 45) (hbadlen : most < s.size - 1 ∨ s.size = 1) :
    Calls Tryz.prog 84 #[.string s, .int .i64 most] w (ReadEnd most s.data.toList w) := by
  unfold maxLen at hs
  have hb : ((s[0].toNat : Int) == 45) = true := by simp; omega
  have hhead := sign_head h0 hc
  have hbody : bodyOf s.data.toList = s.data.toList.tail := by rw [bodyOf, if_pos hhead]
  have hlen : s.data.toList.tail.length = s.size - 1 := by simp
  have hbad : goodFor most s.data.toList = false := by
    simp only [goodFor, hbody, hlen, decide_eq_false_iff_not]
    omega
  have Hbad := Lib.hid hbad
  clear hbad hbody hlen hhead hc
  by_cases h1 : 1 < s.size
  · have hl : most < s.size - 1 := by omega
    clear hbadlen
    go_enter Tryz.func84, Tryz.ntmps84
    go_wp2
    go_ret2
    exact read_bad Hbad.out (Below.refl _ _)
  · have hl : s.size - 1 < 1 := by omega
    clear hbadlen
    go_enter Tryz.func84, Tryz.ntmps84
    go_wp2
    go_ret2
    exact read_bad Hbad.out (Below.refl _ _)

theorem specRead (s : ByteArray) (most : Nat) (w : World) (hm : most ≤ 12) (hs : s.size ≤ maxLen) : Calls Tryz.prog 84 #[.string s, .int .i64 most] w (ReadEnd most s.data.toList w) := by
  by_cases h0 : 0 < s.size
  · by_cases hc : s[0].toNat = 45
    · by_cases hl : 1 < s.size ∧ s.size - 1 ≤ most
      · exact specRead_sign s most w hm hs h0 hc hl.2 hl.1
      · exact specRead_cut s most w hm hs h0 hc (by omega)
    · exact specRead_plain s most w hm hs h0 hc
  · exact specRead_none s most w (by omega)
end Go.Proofs.YtabedmjaodinbaaGreatDoor
