/-
  The program compares two states.
-/
import Derived.Test.YtpmmjaceehlpiaaSpecState
namespace Go.Proofs.Ytpmmjaceehlpiaa
open Go Go.RowKit Go.ChangeShapes Go.WideShapes Go.ChangeAt

set_option maxHeartbeats 800000 in
theorem implEqualState (p q : Int) (a b c d : Option Addr) (ca cb cc cd : Nat) (vs zs us ys : List Int) (w : World) (hn : vs.length ≤ maxLen) (hm : zs.length ≤ maxLen) (h : HeapAt w a b vs zs) (h' : HeapAt w c d us ys) :
    Calls Try.prog 13 #[spC p a vs.length ca b zs.length cb, spC q c us.length cc d ys.length cd] w (GaveX (.bool (sameSp p q vs zs us ys)) w) := by
  have hb0 : ∀ u v t t', Below w.heap.size w ((w.alloc (.cells u t)).alloc (.cells v t')) := fun u v t t' => ((Below.refl _ _).alloc (Nat.le_refl _) _).alloc (by simp) _
  by_cases hpq : p = q
  · subst hpq
    have hs : sameSp p p vs zs us ys = sameH vs zs us ys := by simp [sameSp]
    rw [hs]
    obtain ⟨bb, hbb⟩ : ∃ bb, sameH vs zs us ys = bb := ⟨_, rfl⟩
    rw [hbb]
    have HBB := Lib.hid hbb
    clear hs hbb
    go_enter Try.func13, Try.ntmps13
    go_wp2_with fail
    refine (implEqualHeap a b c d ca cb cc cd vs zs us ys _ hn hm (h.below (hb0 _ _ _ _) (Nat.le_refl _)) (h'.below (hb0 _ _ _ _) (Nat.le_refl _))).mono ?_
    rw [HBB.out]
    rintro e w1 ⟨rfl, hb1⟩
    have hB := (hb0 _ _ _ _).trans (hb1.mono (hb0 _ _ _ _).size)
    have HE := Lib.hid hB
    clear hb1 hB
    go_wp2
    go_ret
    exact ⟨rfl, HE.out⟩
  · have hs : sameSp p q vs zs us ys = false := by simp [sameSp, hpq]
    rw [hs]
    have hne : (p == q) = false := by simpa using hpq
    have HE := Lib.hid hb0
    clear hs hpq hb0
    go_enter Try.func13, Try.ntmps13
    go_wp2
    go_ret
    exact ⟨rfl, HE.out _ _ _ _⟩
end Go.Proofs.Ytpmmjaceehlpiaa
