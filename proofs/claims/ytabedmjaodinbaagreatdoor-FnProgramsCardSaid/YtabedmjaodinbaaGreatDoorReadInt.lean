/-
  The program's readInt: it returns the number from low to high whose numeral the string is, and panics if there is none.
-/
import Derived.Test.YtabedmjaodinbaaGreatDoorSpecParse
import Derived.Test.YtabedmjaodinbaaGreatDoorImplFormat
import Derived.WalkLawsBesides
import Derived.Lib.AtoiAllCases
namespace Go.Proofs.YtabedmjaodinbaaGreatDoor
open Go Go.RowKit

/-- The text of the panic. -/
def Raised (w : World) (e : Ending) (w' : World) : Prop := ∃ v, e = .panicked [{ v := .iface 9 v, recovered := false }] ∧ Below w.heap.size w w'

theorem below_bytes {w w' : World} {b : Nat} (h : w' = w ∨ ∃ t, w' = Lib.bytesWorld w b t) : Below w.heap.size w w' := by
  rcases h with rfl | ⟨t, rfl⟩
  · exact Below.refl _ _
  · exact ⟨rfl, rfl, rfl, by rw [Lib.bytesWorld_size]; omega, fun j hj => Lib.bytesWorld_at_old w b t j hj⟩

set_option maxRecDepth 100000 in
theorem readInt_ok (s : ByteArray) (lo hi : Int) (w : World) (hs : s.size ≤ 1099511627776) (hlo : -999999999999 ≤ lo) (hhi : hi ≤ 999999999999) (hp : Pows w) (h : num lo hi s.data.toList = true) :
    Calls Tryz.prog 95 #[.string s, .int .i64 lo, .int .i64 hi] w fun e w' => e = .returned (.int .i64 (valOf s.data.toList)) ∧ Below w.heap.size w w' := by
  obtain ⟨h1, h2, h3, h4⟩ := atoi_num h
  have hne : (Lib.itoa (valOf s.data.toList) == s.toList) = true := lists_eq h4
  have H1 := Lib.hid h1
  clear h h1 h4
  generalize valOf s.data.toList = v at *
  go_enter Tryz.func95, Tryz.ntmps95
  go_wp2_with fail
  refine (Tryz.strconv_Atoi_ok s (by omega) v H1.out _).mono ?_
  rintro e w1 ⟨rfl, hw⟩
  have hb := below_bytes hw
  have hp1 := hp.keeps hb
  clear hw
  go_wp2_with fail
  refine (implFormat v (by omega) (by omega) _ hp1).mono ?_
  rintro e w2 ⟨rfl, hb2⟩
  go_wp2
  go_ret
  exact ⟨rfl, hb.trans (hb2.mono hb.size)⟩

set_option maxRecDepth 100000 in
theorem readInt_bad (s : ByteArray) (lo hi : Int) (w : World) (hs : s.size ≤ 1099511627776) (hlo : -999999999999 ≤ lo) (hhi : hi ≤ 999999999999) (hp : Pows w) (hst : Sents w) (h : num lo hi s.data.toList = false) :
    Calls Tryz.prog 95 #[.string s, .int .i64 lo, .int .i64 hi] w (Raised w) := by
  obtain ⟨⟨t1, p1, hv1⟩, t2, p2, hv2⟩ := hst
  cases ha : Lib.atoiAll s.data.toList with
  | ok v =>
    have Ha := Lib.hid ha
    clear ha
    by_cases hr : lo ≤ v ∧ v ≤ hi
    · obtain ⟨hr1, hr2⟩ := hr
      have hni : ¬ Lib.itoa v = s.data.toList := fun hi2 => by
        rw [num_atoi hlo hhi hr1 hr2 hi2] at h
        cases h
      have hne : (Lib.itoa v == s.toList) = false := lists_ne hni
      clear hni h hv1 hv2
      go_enter Tryz.func95, Tryz.ntmps95
      go_wp2_with fail
      refine (Tryz.strconv_Atoi_ok s (by omega) v Ha.out _).mono ?_
      rintro e w1 ⟨rfl, hw⟩
      have hb := below_bytes hw
      have hp1 := hp.keeps hb
      clear hw
      go_wp2_with fail
      refine (implFormat v (by omega) (by omega) _ hp1).mono ?_
      rintro e w2 ⟨rfl, hb2⟩
      go_wp2
      exact ⟨rfl, _, rfl, hb.trans (hb2.mono hb.size)⟩
    · clear h hv1 hv2
      have hbd : -9223372036854775808 ≤ v ∧ v ≤ 9223372036854775807 := Lib.atoiAll_bounds Ha.out
      by_cases hl : v < lo
      · clear hr
        go_enter Tryz.func95, Tryz.ntmps95
        go_wp2_with fail
        refine (Tryz.strconv_Atoi_ok s (by omega) v Ha.out _).mono ?_
        rintro e w1 ⟨rfl, hw⟩
        have hb := below_bytes hw
        clear hw
        go_wp2
        exact ⟨rfl, _, rfl, hb⟩
      · have hh : hi < v := by omega
        clear hr
        go_enter Tryz.func95, Tryz.ntmps95
        go_wp2_with fail
        refine (Tryz.strconv_Atoi_ok s (by omega) v Ha.out _).mono ?_
        rintro e w1 ⟨rfl, hw⟩
        have hb := below_bytes hw
        clear hw
        go_wp2
        exact ⟨rfl, _, rfl, hb⟩
  | range =>
    have Ha := Lib.hid ha
    clear ha h
    have Hv := Lib.hid hv2
    clear hv1 hv2
    go_enter Tryz.func95, Tryz.ntmps95
    go_wp2_with fail
    refine (Tryz.strconv_Atoi_range_var s (by omega) Ha.out t2 p2 _ Hv.out).mono ?_
    rintro e w1 ⟨N, rfl, _, _, hb⟩
    go_wp2
    exact ⟨rfl, _, rfl, hb⟩
  | _ =>
    have ha2 : Lib.atoiAll s.data.toList = Lib.atoiAll [] := ha
    have Ha := Lib.hid ha2
    clear ha2
    clear ha h
    have Hv := Lib.hid hv1
    clear hv1 hv2
    go_enter Tryz.func95, Tryz.ntmps95
    go_wp2_with fail
    refine (Tryz.strconv_Atoi_syntax_var s (by omega) Ha.out t1 p1 _ Hv.out).mono ?_
    rintro e w1 ⟨N, rfl, _, _, hb⟩
    go_wp2
    exact ⟨rfl, _, rfl, hb⟩
end Go.Proofs.YtabedmjaodinbaaGreatDoor
