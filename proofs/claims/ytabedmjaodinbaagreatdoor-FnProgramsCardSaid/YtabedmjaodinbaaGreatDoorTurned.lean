/-
  A text that a draw turns a little: of what is drawn only its length is told.
-/
import Derived.Test.YtabedmjaodinbaaGreatDoorDrawOn
import Derived.RegionTactic
import Derived.ChangeAlike
import Derived.Deep.RegionHeld3
namespace Go.Proofs.YtabedmjaodinbaaGreatDoor
open Go Go.RowKit

/-- A text of at most n bytes, drawn. -/
def TextDrawn (g n : Nat) (w : World) (e : Ending) (w' : World) : Prop := ∃ s : ByteArray, s.size ≤ n ∧ e = .returned (.string s) ∧ Cur w' g ∧ w.grownBy w' (some g)
theorem extract_size (s : ByteArray) (i j : Nat) : (s.extract i j).size ≤ s.size := by
  rw [ByteArray.size_extract]
  omega
theorem joined_size {s x : ByteArray} {i n : Nat} (hs : s.size ≤ n) (hx : x.size ≤ 21) (hi : i ≤ s.size) : (s.extract 0 i ++ x ++ s.extract i s.size).size ≤ n + 21 := by
  rw [ByteArray.size_append, ByteArray.size_append, ByteArray.size_extract, ByteArray.size_extract]
  omega

theorem Beside.only {w w' : World} {g : Nat} {a : Option Addr} {xs : List Value} (h : Beside w g a xs) (hg : w.grownBy w' (some g)) : Beside w' g a xs := by
  intro k x hx
  obtain ⟨b, o, rfl, hne, hb, hc⟩ := h k x hx
  exact ⟨b, o, rfl, hne, Nat.lt_of_lt_of_le hb hg.size, hg.cell hc (fun e => hne (Option.some.inj e))⟩

def PickS (g : Nat) (ss : List ByteArray) (w : World) (e : Ending) (w' : World) : Prop := ∃ s ∈ ss, e = .returned (.string s) ∧ Cur w' g ∧ w.grownBy w' (some g)
theorem drawPickS (g cap : Nat) (a : Option Addr) (ss : List ByteArray) (w : World) (h0 : 0 < ss.length) (h1 : ss.length ≤ 1099511627776) (hcur : Cur w g) (hl : Beside w g a (strVals ss)) :
    Calls Tryz.prog 80 #[.pointer (some ⟨g, 0, none⟩), .slice a ss.length cap] w (PickS g ss w) := by
  refine (drawPick g cap a ss w h0 h1 hcur hl).mono ?_
  rintro e w' ⟨v, hv, rfl, hc, hw⟩
  obtain ⟨s, hm, rfl⟩ := List.mem_map.1 hv
  exact ⟨s, hm, rfl, hc, hw⟩

set_option maxHeartbeats 1600000 in
theorem drawTurned (g cap n : Nat) (a : Option Addr) (ss : List ByteArray) (s : ByteArray) (w : World) (hn : s.size ≤ n) (hn2 : n ≤ 1099511627775) (h0 : 0 < ss.length) (h1 : ss.length ≤ 1099511627776) (hss : ∀ x ∈ ss, x.size ≤ 21) (hcur : Cur w g) (hl : Beside w g a (strVals ss)) :
    Calls Tryz.prog 41 #[.pointer (some ⟨g, 0, none⟩), .string s, .slice a ss.length cap] w (TextDrawn g (n + 21) w) := by
  go_enter Tryz.func41, Tryz.ntmps41
  go_wp2_with fail
  refine (drawBelow g (s.size + 1) _ (by omega) (by omega) hcur).mono ?_
  rintro e w1 ⟨x, hx, rfl, hc1, hw1⟩
  go_wp2_with fail
  refine (drawBelow g 6 _ (by omega) (by omega) hc1).mono ?_
  rintro e w2 ⟨y, hy, rfl, hc2, hw2⟩
  have hw12 := only_then hw1 hw2
  have q0 : (0 : Int) ≤ (x : Int) := by omega
  have q1 : (x : Int) ≤ (s.size : Int) := by omega
  by_cases hy0 : y = 0
  · subst hy0
    have hcd : Cur w2.drew g := hc2.keeps (Below.refl _ _).drew
    have hld : Beside w2.drew g a (strVals ss) := (hl.only hw12).only (w' := w2.drew) (only_draws (only_same w2 _) 1)
    have HCD := Lib.hid hcd
    have HLD := Lib.hid hld
    clear hcd hld
    have hmn : min x s.size = x := by omega
    go_wp2
    go_region_held3 (fun _ => True) (first | trivial) (first | (go_at_call 80; refine (drawPickS g cap a ss _ h0 h1 HCD.out HLD.out).mono ?_; rintro e w3 ⟨s3, hm3, rfl, hc3, hw3⟩; have hz3 := hss s3 hm3; have hA1 := fun W => run_string_add_sum (P := Tryz.prog) W (s.extract 0 x) s3 (by have := extract_size s 0 x; omega); have hA2 := fun W => run_string_add_sum (P := Tryz.prog) W (s.extract 0 x ++ s3) (s.extract x s.size) (by have := joined_size hn hz3 (i := x) (by omega); rw [ByteArray.size_append] at this; omega)))
    all_goals
      first
      | (go_wp2; go_ret; exact ⟨_, joined_size hn hz3 (by omega), rfl, hc3, only_then hw12 (only_then (only_draws (only_same w2 _) 1) hw3)⟩)
      | (exfalso; have hmin : min x s.size = x := by omega
         rw [hmin] at *; omega)
  · have e0 : ((y : Int) == 0) = false := by simp only [beq_eq_false_iff_ne, ne_eq]; omega
    by_cases hy1 : y = 1
    · subst hy1
      go_wp2
      go_ret
      exact ⟨_, Nat.le_trans (extract_size _ _ _) (by omega), rfl, hc2, hw12⟩
    · have e1 : ((y : Int) == 1) = false := by simp only [beq_eq_false_iff_ne, ne_eq]; omega
      go_wp2
      go_ret
      exact ⟨s, by omega, rfl, hc2, hw12⟩
end Go.Proofs.YtabedmjaodinbaaGreatDoor
