/-
  The model: no way round, new numbers, leak, the canonical heap, what a heap is.
-/
import Derived.Test.YtpmmjaceehlpiaaSpecCanon
namespace Go.Proofs.Ytpmmjaceehlpiaa
open Go Go.RowKit Go.Sort

set_option maxRecDepth 100000 in
set_option maxHeartbeats 1600000 in
theorem specAcyclic (a b : Option Addr) (ca cb : Nat) (vs zs : List Int) (w : World) (hz : zs.length ≤ 1048576) (h : HeapAt w a b vs zs) (hg : goodB zs zs = true) :
    Calls Try.prog 28 #[heV a vs.length ca b zs.length cb] w (GaveX (.bool (acyc zs)) w) := by
  go_enter Try.func28, Try.ntmps28
  go_wp2
  obtain ⟨W0, hW0, hb0, hs0, hA0⟩ := one_box2 w (.slice a vs.length ca) (.slice b zs.length cb) 34
  rw [hW0]
  clear hW0
  go_loopw [3] (fun i wr => ∃ k : Nat, k ≤ zs.length ∧ i = .int .i64 k ∧ (upTo k).all (acycAt zs) = true ∧ Below W0.heap.size W0 wr) (fun i _ => zs.length - (intOf i).toNat)
  case atStart => exact ⟨0, Nat.zero_le _, rfl, rfl, Below.refl _ _⟩
  case round =>
    obtain ⟨k, hk, rfl, hall, hb⟩ := hrel
    have hBr := hb0.trans (hb.mono hb0.size)
    obtain ⟨c0, c1⟩ := hA0.keep hs0 hb
    have hsr : w.heap.size < wr.heap.size := Nat.lt_of_lt_of_le hs0 hb.size
    have Hall := Lib.hid hall
    clear hall
    by_cases hlt : k < zs.length
    · go_wp2_with fail
      refine (specFollowed a b vs.length ca cb zs (k : Int) _ hz (h.below hBr (Nat.le_refl _)).z).mono ?_
      rintro e w2 ⟨ag, cg, rfl, hcg, hg2, hb2⟩
      rw [intVals_length] at *
      obtain ⟨hl, hcell⟩ := followed_here hg hlt
      have hac := acycAt_of hl
      obtain ⟨j, hj, hjz⟩ := isC_nat hcell
      rw [hj, nextC_at hjz] at hac
      obtain ⟨gb, go, rfl, hgb, hgc⟩ := Row.owned hg2 _ _ (intVals_at _ _ hl)
      rw [hj] at hgc
      have hB2 := hb.trans (hb2.mono hb.size)
      obtain ⟨bz, oz, rfl, hbz, hcz⟩ := (h.below (hb0.trans (hB2.mono hb0.size)) (Nat.le_refl _)).z j _ (intVals_at zs j hjz)
      obtain ⟨d0, d1⟩ := hA0.keep hs0 hB2
      have hlen : 1 ≤ (followed zs (k : Int)).length := by omega
      have hlm : (followed zs (k : Int)).length ≤ 1048576 := Nat.le_trans (followed_ok zs (k : Int)).len hz
      clear hg2 hcell hj hl c0 c1
      generalize (followed zs (k : Int)).length = n at *
      have hn1 : ((n : Int) - 1) = ((n - 1 : Nat) : Int) := by omega
      have hn0 : decide (n = 0) = false := decide_eq_false (by omega)
      have hn2 : ((n : Int) == 0) = false := by simp; omega
      have hn3 : ¬ n = 0 := by omega
      by_cases hx : zs[j] = -1
      · have hxb : (zs[j] != -1) = false := by simpa using hx
        rw [decide_eq_true hx] at hac
        have Hn := Lib.hid (acyc_next Hall.out hac)
        clear hac hx
        go_wp2
        go_quiet (fail)
        go_wp2
        go_roundw
        case rel => exact ⟨k + 1, by omega, by go_num, Hn.out, below_draws hB2 _⟩
        case measure => simp [intOf]; omega
      · have hxb : (zs[j] != -1) = true := by simpa using hx
        rw [decide_eq_false hx] at hac
        have Hn := Lib.hid (acyc_bad hlt hac)
        clear hac hx
        go_wp2
        go_quiet (fail)
        go_wp2
        go_ret
        exact ⟨by rw [Hn.out]; rfl, below_draws (hb0.trans (hB2.mono hb0.size)) _⟩
    · have hk' : k = zs.length := by omega
      have ht : acyc zs = true := by have := Hall.out; rw [hk'] at this; exact this
      have Ht := Lib.hid ht
      clear ht hk'
      go_wp2
      go_ret
      exact ⟨by rw [Ht.out]; rfl, hBr⟩

end Go.Proofs.Ytpmmjaceehlpiaa
