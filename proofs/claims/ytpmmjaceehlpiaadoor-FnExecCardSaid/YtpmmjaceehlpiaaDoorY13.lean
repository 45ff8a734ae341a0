/-
  Pure: what Exec answers is a valid heap; of a test and its opposite exactly one lets the heap stay, the other blocks.
-/
import Derived.Test.YtpmmjaceehlpiaaDoorY02
import Derived.Test.YtpmmjaceehlpiaaDoorY10
import Derived.Test.YtpmmjaceehlpiaaDoorY12
namespace Go.Proofs.YtpmmjaceehlpiaaDoor
open Go Go.RowKit

theorem place_lt {ss : List ByteArray} (a : ByteArray) (h : 1 ≤ ss.length) : (place ss a).toNat < ss.length := by
  by_cases h0 : 0 ≤ place ss a
  · have := place_in h0
    omega
  · omega
theorem exec_heap {ss : List ByteArray} {k : Int} {a b : ByteArray} {vs zs ps qs : List Int} (h : execS ss k a b vs zs = (0, ps, qs)) : heapB (ss.length : Int) ps qs = true := by
  unfold execS at h
  rcases ite_parts h with ⟨⟨_, h2⟩, h⟩ | ⟨_, h⟩
  · rcases ite_parts h with ⟨h0, h⟩ | ⟨h0, h⟩
    · rcases ite_parts h with ⟨_, h⟩ | ⟨_, h⟩
      · exact (bad_no (by decide) h).elim
      · obtain ⟨rfl, rfl⟩ := act_inj h
        obtain ⟨hv, _⟩ := heapB_parts h2
        have hl : vs.length = ss.length := by omega
        have hs := do_sound (k := k) (pa := (place ss a).toNat) (pb := (place ss b).toNat) (us := (doS k (place ss a).toNat (place ss b).toNat vs zs).2.1) (ys := (doS k (place ss a).toNat (place ss b).toNat vs zs).2.2) (sound_of h2) (by rw [hl]; exact place_lt a (by omega)) (by rw [hl]; exact place_lt b (by omega)) (Prod.ext h0 rfl)
        rw [hl] at hs
        exact canon_heap hs (by omega)
    · exact absurd (congrArg Prod.fst h) h0
  · exact (bad_no (by decide) h).elim
theorem exec_test {ss : List ByteArray} {k : Int} {a b : ByteArray} {vs zs : List Int} (h1 : stmtB ss k a b = true) (h2 : heapB (ss.length : Int) vs zs = true) (ht : isTestS k = true) :
    execS ss k a b vs zs = if testB k (vs.getD (place ss a).toNat (-1)) (vs.getD (place ss b).toNat (-1)) = true then (0, vs, zs) else badC 1 := by
  obtain ⟨c1, c2, hl⟩ := heap_stays h2
  by_cases hb : testB k (vs.getD (place ss a).toNat (-1)) (vs.getD (place ss b).toNat (-1)) = true
  · rw [if_pos hb, exec_ok h1 h2 (do_passed ht hb) hl, c1, c2]
  · rw [if_neg hb]
    exact exec_code h1 h2 (do_blocked ht (by simpa using hb)) (by decide)
theorem test_opp {k : Int} (ht : isTestS k = true) (x y : Int) : testB (oppS k) x y = !testB k x y := by
  rcases isTestS_four ht with rfl | rfl | rfl | rfl
  all_goals simp [testB, oppS]
theorem opp_test {k : Int} (ht : isTestS k = true) : isTestS (oppS k) = true := by
  rcases isTestS_four ht with rfl | rfl | rfl | rfl
  all_goals simp [oppS, isTestS]
theorem opp_stmt {ss : List ByteArray} {k : Int} {a b : ByteArray} (ht : isTestS k = true) : stmtB ss (oppS k) a b = stmtB ss k a b := by
  have e : namesN (oppS k) = namesN k := by
    rcases isTestS_four ht with rfl | rfl | rfl | rfl
    all_goals decide
  unfold stmtB
  rw [e]
end Go.Proofs.YtpmmjaceehlpiaaDoor
