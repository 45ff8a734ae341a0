/-
  Does a structure have an element of Next for each pair of nodes; one element of it: the program's walks and the model's.
-/
import Derived.Test.YtplchhahjmoodaaDoorNodes
import Derived.Test.YtplchhahjmoodaaDoorTruth
namespace Go.Proofs.YtplchhahjmoodaaDoor
open Go Go.RowKit

def pairsB (n m : Nat) : Bool := decide (m = n * n)
theorem tmod_nat (m n : Nat) : (m : Int).tmod (n : Int) = ((m % n : Nat) : Int) := by
  rw [Int.tmod_eq_emod_of_nonneg (by omega)]
  exact (Int.natCast_emod m n).symm
theorem tdiv_nat (m n : Nat) : (m : Int).tdiv (n : Int) = ((m / n : Nat) : Int) := by
  rw [Int.tdiv_eq_ediv_of_nonneg (by omega)]
  exact (Int.natCast_ediv m n).symm
set_option maxHeartbeats 800000 in
theorem implAllPairs (a b : Option Addr) (ca cb n m : Nat) (w : World) (hn : n ≤ maxLen) (hm : m ≤ maxLen) :
    Calls Tryd.prog 68 #[heV a n ca b m cb] w (GaveX (.bool (pairsB n m)) w) := by
  unfold maxLen at hn hm
  obtain ⟨W0, hW0, hb0, hs0, hA0⟩ := one_box2 w (.slice a n ca) (.slice b m cb) 42
  obtain ⟨c0, c1⟩ := hA0
  by_cases h0 : n = 0
  · subst h0
    have hp : pairsB 0 m = decide (m = 0) := by unfold pairsB; rw [Nat.zero_mul]
    rw [hp]
    clear hp
    by_cases hm0 : m = 0
    · subst hm0
      go_enter Tryd.func68, Tryd.ntmps68
      go_wp2_with fail
      clear hW0
      go_quiet (fail)
      go_wp2
      go_ret
      exact ⟨rfl, below_draws hb0 _⟩
    · have hd : ((m : Int) == 0) = false := beq_eq_false_iff_ne.2 (by omega)
      have hf : decide (m = 0) = false := decide_eq_false hm0
      rw [hf]
      clear hf
      go_enter Tryd.func68, Tryd.ntmps68
      go_wp2_with fail
      clear hW0
      go_quiet (fail)
      go_wp2
      go_ret
      exact ⟨rfl, below_draws hb0 _⟩
  · have hd0 : ((n : Int) == 0) = false := beq_eq_false_iff_ne.2 (by omega)
    have hn0 : ¬ (n : Int) = 0 := by omega
    have t1 := tmod_nat m n
    have t2 := tdiv_nat m n
    have hq : m / n ≤ m := Nat.div_le_self m n
    have hr : m % n ≤ m := Nat.mod_le m n
    by_cases h1 : m % n = 0
    · by_cases h2 : m / n = n
      · have hf : pairsB n m = true := decide_eq_true (by
          have := Nat.div_add_mod m n
          rw [h1, h2, Nat.add_zero] at this
          exact this.symm)
        rw [hf]
        rw [h1] at t1
        rw [h2] at t2
        clear hf h1 h2
        go_enter Tryd.func68, Tryd.ntmps68
        go_wp2_with fail
        clear hW0
        go_quiet (fail)
        go_wp2
        go_ret
        exact ⟨rfl, below_draws hb0 _⟩
      · have hf : pairsB n m = false := decide_eq_false (by
          intro h
          apply h2
          rw [h, Nat.mul_div_cancel _ (by omega)])
        rw [hf]
        have hd2 : (((m / n : Nat) : Int) == (n : Int)) = false := beq_eq_false_iff_ne.2 (by omega)
        rw [h1] at t1
        generalize m / n = q at *
        clear hf h1
        go_enter Tryd.func68, Tryd.ntmps68
        go_wp2_with fail
        clear hW0
        go_quiet (fail)
        go_wp2
        go_ret
        exact ⟨rfl, below_draws hb0 _⟩
    · have hf : pairsB n m = false := decide_eq_false (by
          intro h
          apply h1
          rw [h, Nat.mul_mod_right])
      rw [hf]
      have hd2 : (((m % n : Nat) : Int) == 0) = false := beq_eq_false_iff_ne.2 (by omega)
      generalize m % n = q at *
      clear hf h1 t2 hq
      go_enter Tryd.func68, Tryd.ntmps68
      go_wp2_with fail
      clear hW0
      go_quiet (fail)
      go_wp2
      go_ret
      exact ⟨rfl, below_draws hb0 _⟩
/-- One element of Next. -/
def nextS (n : Nat) (zs : List Int) (i j : Int) : Int := if (0 ≤ i ∧ i < n) ∧ (0 ≤ j ∧ j < n) ∧ zs.length = n * n then zs.getD (i.toNat * n + j.toNat) 1 else 1
theorem at_pair {n i j : Nat} (hi : i < n) (hj : j < n) : i * n + j < n * n := by
  have : (i + 1) * n ≤ n * n := Nat.mul_le_mul_right n hi
  rw [Nat.add_mul, Nat.one_mul] at this
  omega
theorem nextS_at {n i j : Nat} {zs : List Int} (hi : i < n) (hj : j < n) (hm : zs.length = n * n) (h : i * n + j < zs.length) : nextS n zs i j = zs[i * n + j] := by
  unfold nextS
  rw [if_pos ⟨⟨by omega, by omega⟩, ⟨by omega, by omega⟩, hm⟩]
  simp [h]
set_option maxHeartbeats 1600000 in
theorem specNextOf (a b : Option Addr) (ca cb n : Nat) (zs : List Int) (i j : Int) (w : World) (hn : n ≤ 1048576) (hm : zs.length ≤ maxLen) (hrow : Row w w.heap.size b (intVals zs)) :
    Calls Tryd.prog 63 #[heV a n ca b zs.length cb, .int .i64 i, .int .i64 j] w (GaveX (.int .i64 (nextS n zs i j)) w) := by
  obtain ⟨W0, hW0, hb0, hs0, hA0⟩ := one_box2 w (.slice a n ca) (.slice b zs.length cb) 42
  obtain ⟨c0, c1⟩ := hA0
  obtain ⟨r, hr⟩ : ∃ r, nextS n zs i j = r := ⟨_, rfl⟩
  rw [hr]
  have HR := Lib.hid hr
  clear hr
  have hq : n * n ≤ 1048576 * 1048576 := Nat.mul_le_mul hn hn
  have en : (n : Int) * (n : Int) = ((n * n : Nat) : Int) := (Int.natCast_mul n n).symm
  unfold maxLen at hm
  have HN := Lib.hid hn
  have HI := Lib.hid (fun W => specInT i 0 ((n : Int) - 1) W)
  have HJ := Lib.hid (fun W => specInT j 0 ((n : Int) - 1) W)
  go_enter Tryd.func63, Tryd.ntmps63
  go_wp2_with fail
  clear hW0
  refine (HI.out _).mono ?_
  rintro e w1 ⟨rfl, rfl⟩
  cases h1 : (decide (0 ≤ i) && decide (i ≤ (n : Int) - 1)) with
  | false =>
    have HE := Lib.hid (show r = 1 by
      rw [← HR.out]
      unfold nextS
      rw [if_neg]
      rintro ⟨⟨p, q⟩, _⟩
      rw [decide_eq_true p, decide_eq_true (by omega : i ≤ (n : Int) - 1)] at h1
      cases h1)
    clear h1
    go_wp2
    go_ret
    exact ⟨by rw [HE.out]; rfl, hb0⟩
  | true =>
    go_wp2_with fail
    refine (HJ.out _).mono ?_
    rintro e w2 ⟨rfl, rfl⟩
    cases h2 : (decide (0 ≤ j) && decide (j ≤ (n : Int) - 1)) with
    | false =>
      have HE := Lib.hid (show r = 1 by
        rw [← HR.out]
        unfold nextS
        rw [if_neg]
        rintro ⟨_, ⟨p, q⟩, _⟩
        rw [decide_eq_true p, decide_eq_true (by omega : j ≤ (n : Int) - 1)] at h2
        cases h2)
      clear h1 h2
      go_wp2
      go_ret
      exact ⟨by rw [HE.out]; rfl, hb0⟩
    | true =>
      simp only [Bool.and_eq_true, decide_eq_true_eq] at h1 h2
      obtain ⟨i', rfl⟩ : ∃ i' : Nat, i = (i' : Int) := ⟨i.toNat, by omega⟩
      obtain ⟨j', rfl⟩ : ∃ j' : Nat, j = (j' : Int) := ⟨j.toNat, by omega⟩
      have hi : i' < n := by omega
      have hj : j' < n := by omega
      by_cases h3 : zs.length = n * n
      · have hlt : i' * n + j' < zs.length := by rw [h3]; exact at_pair hi hj
        have hp : i' * n ≤ n * n := Nat.mul_le_mul_right n (Nat.le_of_lt hi)
        have HE := Lib.hid (show r = zs[i' * n + j'] by rw [← HR.out]; exact nextS_at hi hj h3 hlt)
        obtain ⟨bb, bo, rfl, hbb, hcb⟩ := hrow (i' * n + j') _ (intVals_at zs _ hlt)
        have hc3 := (hb0.cell (p := ⟨bb, bo + (i' * n + j'), none⟩) hbb).trans hcb
        have ep : (i' : Int) * (n : Int) = ((i' * n : Nat) : Int) := (Int.natCast_mul i' n).symm
        have hne : ((zs.length : Int) != ((n * n : Nat) : Int)) = false := by simp [h3]
        generalize i' * n = p at *
        generalize n * n = q at *
        clear h1 h2 hcb hrow
        go_wp2
        go_ret
        exact ⟨by rw [HE.out]; rfl, hb0⟩
      · have HE := Lib.hid (show r = 1 by
          rw [← HR.out]
          unfold nextS
          rw [if_neg]
          rintro ⟨_, _, p⟩
          exact h3 p)
        have hne : ((zs.length : Int) != ((n * n : Nat) : Int)) = true := bne_iff_ne.2 (by omega)
        generalize n * n = q at *
        clear h1 h2
        go_wp2
        go_ret
        exact ⟨by rw [HE.out]; rfl, hb0⟩
/-- .. over a structure. -/
def nextB (s : List ((List Int × List Int) × Int × Int) × List Int) (i j : Int) : Int := nextS s.1.length s.2 i j
theorem nextB_eq (x : St) (i j : Int) : nextB x.body i j = nextS x.ns.length x.zs i j := by simp [nextB, St.body]
theorem specNext (x : St) (i j : Int) (w : World) (h : Small x.body) (hat : x.At w) :
    Calls Tryd.prog 63 #[x.v, .int .i64 i, .int .i64 j] w (GaveX (.int .i64 (nextB x.body i j)) w) := by
  rw [nextB_eq]
  exact specNextOf _ _ _ _ _ _ _ _ _ h.n1 (small_max h).2.1 hat.next
end Go.Proofs.YtplchhahjmoodaaDoor
