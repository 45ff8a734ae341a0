/-
  The model's IsName, IndexOf, AreVars, Positions: what each returns.
-/
import Derived.Test.YtplchhahjmoodaaNames
import Derived.Test.YtplchhahjmoodaaChecked
namespace Go.Proofs.Ytplchhahjmoodaa
open Go Go.RowKit

theorem specIn (n lo hi : Int) (w : World) : Calls Try.prog 22 #[.int .i64 n, .int .i64 lo, .int .i64 hi] w fun e w' => e = .returned (.bool (decide (lo ≤ n) && decide (n ≤ hi))) ∧ w = w' := by
  by_cases h : lo ≤ n
  · rw [decide_eq_true h, Bool.true_and]
    go_enter Try.func22, Try.ntmps22
    go_wp2
    go_ret
    exact ⟨rfl, rfl⟩
  · rw [decide_eq_false h, Bool.false_and]
    go_enter Try.func22, Try.ntmps22
    go_wp2
    go_ret
    exact ⟨rfl, rfl⟩

theorem nat_in (n hi : Nat) : (decide ((1 : Int) ≤ (n : Int)) && decide ((n : Int) ≤ (hi : Int))) = decide (1 ≤ n ∧ n ≤ hi) := by
  rw [← Bool.decide_and]
  congr 1
  simp only [eq_iff_iff]
  omega

theorem numInfo : (Try.prog.info? 3).map (fun i => (i.zero, i.size, i.bytes)) = some (some (.int .i64 0), 1, 8) := by kernel_rfl

set_option maxRecDepth 100000 in
set_option maxHeartbeats 800000 in
theorem specPositions (a : Option Addr) (cap : Nat) (ns : List Int) (n : Int) (w : World) (hlen : ns.length ≤ 1048576) (hrow : Row w w.heap.size a (intVals ns)) :
    Calls Try.prog 45 #[.slice a ns.length cap, .int .i64 n] w (Built w.heap.size 3 (intVals (posFrom n 0 ns)) w) := by
  obtain ⟨i0, hi, hz0, hz1, hz2⟩ := info_parts numInfo
  go_enter Try.func45, Try.ntmps45
  go_wp2
  go_loopw [5, 6] (fun v i wr => ∃ (k : Nat) (qs : List Int), k ≤ ns.length ∧ i = .int .i64 k ∧ qs.length ≤ k ∧ qs ++ posFrom n k (ns.drop k) = posFrom n 0 ns ∧ wr.ownsRow w.heap.size 3 1 v qs.length (intVals qs) ∧ Below w.heap.size w wr)
    (fun _ i _ => ns.length - (intOf i).toNat)
  case atStart => exact ⟨0, [], Nat.zero_le _, rfl, Nat.le_refl _, rfl, World.ownsRow_made w #[] 0 (Nat.le_refl _) (Nat.zero_le _) rfl, (Below.refl _ _).alloc (Nat.le_refl _) _⟩
  case round =>
    obtain ⟨k, qs, hk, rfl, hql, hq, hown, hbw⟩ := hrel
    have Hown := Lib.hid hown
    clear hown
    by_cases hlt : k < ns.length
    · obtain ⟨b, o, rfl, hbW, hc0⟩ := hrow k (.int .i64 ns[k]) (intVals_at ns k hlt)
      have hc : wr.cell? ⟨b, o + k, none⟩ = some (.int .i64 ns[k]) := (hbw.cell (p := ⟨b, o + k, none⟩) hbW).trans hc0
      clear hc0
      by_cases he : ns[k] = n
      · rw [pos_hit hlt he] at hq
        have Hq := Lib.hid hq
        have hd : (ns[k] == n) = true := by simpa using he
        clear hq he
        go_wp2_with (at_builtin; refine wpList_append_own _ rfl (.tmp 20) (.tmp 22) 23 rfl w.heap.size 3 i0 (.int .i64 0) 1 8 Try.underlying23 hi hz0 hz1 hz2 rfl (by decide) _ qs.length _ rfl (Hown.out.alloc _) ⟨wr.heap.size, 0, none⟩ 1 1 [.int .i64 (k : Int)] rfl rfl (oneCell_at _) (oneCell_int _) (by unfold maxLen; omega) (by omega) (Nat.le_trans hbw.size (by simp)) ?_; intro v2 w2 hown2 hg2 _; have hb2 := own_below (Hown.out.alloc _) hg2 (Nat.le_trans hbw.size (by simp)) (hbw.alloc hbw.size _); clear hg2)
        go_roundw
        case rel => exact ⟨k + 1, qs ++ [(k : Int)], by omega, by go_num, by simp; omega, by rw [← Hq.out]; simp, by rw [intVals_snoc, List.length_append, List.length_singleton]; exact hown2, hb2⟩
        case measure => simp [intOf]; omega
      · rw [pos_miss hlt he] at hq
        have Hq := Lib.hid hq
        have hd : (ns[k] == n) = false := by simpa using he
        clear hq he
        go_wp2
        go_roundw
        case rel => exact ⟨k + 1, qs, by omega, by go_num, by omega, Hq.out, Hown.out, hbw⟩
        case measure => simp [intOf]; omega
    · rw [pos_end (by omega), List.append_nil] at hq
      have Hq := Lib.hid hq
      clear hq
      go_wp2
      go_ret
      rw [← Hq.out]
      exact built_end (intVals_length _).symm Hown.out hbw
end Go.Proofs.Ytplchhahjmoodaa
