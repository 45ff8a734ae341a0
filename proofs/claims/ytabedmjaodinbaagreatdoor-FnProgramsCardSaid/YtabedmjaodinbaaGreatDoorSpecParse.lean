/-
  The model's ParseNumber and ParseInt: the number whose numeral the string is, and true; else 0 and false.
-/
import Derived.Test.YtabedmjaodinbaaGreatDoorSpecRead
namespace Go.Proofs.YtabedmjaodinbaaGreatDoor
open Go Go.RowKit

def PairEnd (lo hi : Int) (l : List UInt8) (w : World) (e : Ending) (w' : World) : Prop :=
  e = .returned (.tuple #[.int .i64 (if num lo hi l = true then valOf l else 0), .bool (num lo hi l)]) ∧ Below w.heap.size w w'
theorem pair_bad {lo hi : Int} {l : List UInt8} {w w' : World} (h : num lo hi l = false) (hb : Below w.heap.size w w') : PairEnd lo hi l w (.returned (.tuple #[.int .i64 0, .bool false])) w' := by
  refine ⟨?_, hb⟩
  rw [h]
  rfl
theorem pair_good {lo hi : Int} {l : List UInt8} {v : Int} {w w' : World} (h : num lo hi l = true) (hv : valOf l = v) (hb : Below w.heap.size w w') : PairEnd lo hi l w (.returned (.tuple #[.int .i64 v, .bool true])) w' := by
  refine ⟨?_, hb⟩
  rw [h, hv]
  rfl
/-- The reader's two outcomes, apart. -/
theorem specRead_yes (s : ByteArray) (most : Nat) (w : World) (hm : most ≤ 12) (hs : s.size ≤ maxLen) (h : goodFor most s.data.toList = true) :
    Calls Tryz.prog 84 #[.string s, .int .i64 most] w fun e w' => e = .returned (.tuple #[.int .i64 (valOf s.data.toList), .bool true]) ∧ Below w.heap.size w w' :=
  (specRead s most w hm hs).mono fun e w' ⟨he, hb⟩ => ⟨by rw [he, h]; rfl, hb⟩
theorem specRead_no (s : ByteArray) (most : Nat) (w : World) (hm : most ≤ 12) (hs : s.size ≤ maxLen) (h : goodFor most s.data.toList = false) :
    Calls Tryz.prog 84 #[.string s, .int .i64 most] w fun e w' => e = .returned (.tuple #[.int .i64 0, .bool false]) ∧ Below w.heap.size w w' :=
  (specRead s most w hm hs).mono fun e w' ⟨he, hb⟩ => ⟨by rw [he, h]; rfl, hb⟩

set_option maxRecDepth 100000 in
theorem specParseNumber (s : ByteArray) (w : World) (hs : s.size ≤ maxLen) :
    Calls Tryz.prog 44 #[.string s] w (PairEnd 0 999999 s.data.toList w) := by
  cases hg : goodFor 6 s.data.toList with
  | true =>
    by_cases hv : valOf s.data.toList < 0
    · have hn : num 0 999999 s.data.toList = false := by rw [num_number, hg]; simp; omega
      have Hn := Lib.hid hn
      have Hg := Lib.hid hg
      clear hn hg
      go_enter Tryz.func44, Tryz.ntmps44
      go_wp2_with fail
      refine (specRead_yes s 6 _ (by omega) hs Hg.out).mono ?_
      rintro e w1 ⟨rfl, hb⟩
      go_wp2
      go_ret2
      exact pair_bad Hn.out hb
    · have hn : num 0 999999 s.data.toList = true := by rw [num_number, hg]; simp; omega
      have Hn := Lib.hid hn
      have Hg := Lib.hid hg
      clear hn hg
      go_enter Tryz.func44, Tryz.ntmps44
      go_wp2_with fail
      refine (specRead_yes s 6 _ (by omega) hs Hg.out).mono ?_
      rintro e w1 ⟨rfl, hb⟩
      go_wp2
      go_ret2
      exact pair_good Hn.out rfl hb
  | false =>
    have hn : num 0 999999 s.data.toList = false := by rw [num_number, hg]; rfl
    have Hn := Lib.hid hn
    have Hg := Lib.hid hg
    clear hn hg
    go_enter Tryz.func44, Tryz.ntmps44
    go_wp2_with fail
    refine (specRead_no s 6 _ (by omega) hs Hg.out).mono ?_
    rintro e w1 ⟨rfl, hb⟩
    go_wp2
    go_ret2
    exact pair_bad Hn.out hb
end Go.Proofs.YtabedmjaodinbaaGreatDoor
