/-
  Several texts of one proof in one file, in the order in which they build.
-/
import Derived.Test.YtglcailcdcpadaaGreatDoorChecked
import Derived.Test.YtglcailcdcpadaaGreatDoorZ03
/-
  The model's IsName, IndexOf, AreVars, Positions: what each returns.
-/
namespace Go.Proofs.YtglcailcdcpadaaGreatDoor
open Go Go.RowKit

theorem specIn (n lo hi : Int) (w : World) : Calls Tryz.prog 48 #[.int .i64 n, .int .i64 lo, .int .i64 hi] w fun e w' => e = .returned (.bool (decide (lo ≤ n) && decide (n ≤ hi))) ∧ w = w' := by
  by_cases h : lo ≤ n
  · rw [decide_eq_true h, Bool.true_and]
    go_enter Tryz.func48, Tryz.ntmps48
    go_wp2
    go_ret
    exact ⟨rfl, rfl⟩
  · rw [decide_eq_false h, Bool.false_and]
    go_enter Tryz.func48, Tryz.ntmps48
    go_wp2
    go_ret
    exact ⟨rfl, rfl⟩

theorem nat_in (n hi : Nat) : (decide ((1 : Int) ≤ (n : Int)) && decide ((n : Int) ≤ (hi : Int))) = decide (1 ≤ n ∧ n ≤ hi) := by
  rw [← Bool.decide_and]
  congr 1
  simp only [eq_iff_iff]
  omega

set_option maxHeartbeats 400000 in
theorem specIsName (s : ByteArray) (w : World) (hs : s.size ≤ maxLen) : Calls Tryz.prog 99 #[.string s] w fun e w' => e = .returned (.bool (goodName s)) ∧ w = w' := by
  unfold maxLen at hs
  go_enter Tryz.func99, Tryz.ntmps99
  go_wp2
  go_loop [3] (fun i => ∃ k : Nat, k ≤ s.size ∧ i = .int .i64 k ∧ ∀ j (h : j < s.size), j < k → 97 ≤ (s[j]'h).toNat ∧ (s[j]'h).toNat ≤ 122) (fun i => s.size - (intOf i).toNat)
  case atStart => exact ⟨0, Nat.zero_le _, rfl, fun j _ h => by omega⟩
  case round =>
    obtain ⟨k, hk, rfl, hall⟩ := hrel
    have Hall := Lib.hid hall
    clear hall
    by_cases hlt : k < s.size
    · by_cases hlo : (s[k].toNat : Int) < 97
      · have hbad : goodName s = false := name_bad hlt (.inl (by omega))
        have Hbad := Lib.hid hbad
        clear hbad
        go_wp2
        go_ret
        rw [Hbad.out]
        exact ⟨rfl, rfl⟩
      · by_cases hhi : 122 < (s[k].toNat : Int)
        · have hbad : goodName s = false := name_bad hlt (.inr (by omega))
          have Hbad := Lib.hid hbad
          clear hbad
          go_wp2
          go_ret
          rw [Hbad.out]
          exact ⟨rfl, rfl⟩
        · go_wp2
          go_round
          case rel =>
            refine ⟨k + 1, by omega, by go_num, fun j h hj => ?_⟩
            by_cases hjk : j = k
            · subst hjk
              omega
            · exact Hall.out j h (by omega)
          case measure => simp [intOf]; omega
    · have hgood : goodName s = decide (1 ≤ s.size ∧ s.size ≤ 2) := name_whole fun j h => Hall.out j h (by omega)
      have Hgood := Lib.hid hgood
      clear hgood
      go_wp2_with fail
      refine (specIn s.size 1 2 _).mono ?_
      rintro e w1 ⟨rfl, rfl⟩
      go_wp2
      go_ret
      rw [Hgood.out]
      exact ⟨by rw [← nat_in]; rfl, rfl⟩

set_option maxHeartbeats 400000 in
theorem specIndexOf (a : Option Addr) (cap : Nat) (ss : List ByteArray) (s : ByteArray) (w : World) (hlen : ss.length ≤ maxLen) (hrow : Row w w.heap.size a (strVals ss)) :
    Calls Tryz.prog 100 #[.slice a ss.length cap, .string s] w fun e w' => e = .returned (.int .i64 (place ss s)) ∧ w = w' := by
  unfold maxLen at hlen
  go_enter Tryz.func100, Tryz.ntmps100
  go_wp2
  go_loop [5] (fun i => ∃ k : Nat, k ≤ ss.length ∧ i = .int .i64 k ∧ place ss s = placeFrom s k (ss.drop k)) (fun i => ss.length - (intOf i).toNat)
  case atStart => exact ⟨0, Nat.zero_le _, rfl, rfl⟩
  case round =>
    obtain ⟨k, hk, rfl, hp⟩ := hrel
    by_cases hlt : k < ss.length
    · obtain ⟨b, o, rfl, hbW, hc⟩ := hrow k (.string ss[k]) (by simp [strVals, hlt])
      cases he : (ss[k].toList == s.toList) with
      | true =>
        rw [place_hit hlt he] at hp
        have Hp := Lib.hid hp
        clear hp
        go_wp2
        go_ret
        rw [Hp.out]
        exact ⟨rfl, rfl⟩
      | false =>
        rw [place_miss hlt he] at hp
        have Hp := Lib.hid hp
        clear hp
        go_wp2
        go_round
        case rel => exact ⟨k + 1, by omega, by go_num, Hp.out⟩
        case measure => simp [intOf]; omega
    · rw [place_end (by omega)] at hp
      have Hp := Lib.hid hp
      clear hp
      go_wp2
      go_ret
      rw [Hp.out]
      exact ⟨rfl, rfl⟩

set_option maxHeartbeats 400000 in
theorem specAreVars (a : Option Addr) (cap : Nat) (ss : List ByteArray) (w : World) (hlen : ss.length ≤ maxLen) (hws : ∀ s ∈ ss, s.size ≤ maxLen) (hrow : Row w w.heap.size a (strVals ss)) :
    Calls Tryz.prog 57 #[.slice a ss.length cap] w fun e w' => e = .returned (.bool (goodVars ss)) ∧ w = w' := by
  have hlen' := hlen
  unfold maxLen at hlen
  go_enter Tryz.func57, Tryz.ntmps57
  go_wp2
  go_loop [3] (fun i => ∃ k : Nat, k ≤ ss.length ∧ i = .int .i64 k ∧ ∀ j (h : j < ss.length), j < k → goodName ss[j] = true ∧ place ss ss[j] = (j : Int)) (fun i => ss.length - (intOf i).toNat)
  case atStart => exact ⟨0, Nat.zero_le _, rfl, fun j _ h => by omega⟩
  case round =>
    obtain ⟨k, hk, rfl, hall⟩ := hrel
    have Hall := Lib.hid hall
    clear hall
    by_cases hlt : k < ss.length
    · obtain ⟨b, o, rfl, hbW, hc⟩ := hrow k (.string ss[k]) (by simp [strVals, hlt])
      have hsz := hws ss[k] (List.getElem_mem hlt)
      cases hg : goodName ss[k] with
      | false =>
        have hbad : goodVars ss = false := vars_bad hlt (by rw [hg]; simp)
        have Hbad := Lib.hid hbad
        have Hg := Lib.hid hg
        clear hbad hg
        go_wp2_with fail
        refine (specIsName ss[k] _ hsz).mono ?_
        rintro e w1 ⟨rfl, rfl⟩
        rw [Hg.out]
        go_wp2
        go_ret
        rw [Hbad.out]
        exact ⟨rfl, rfl⟩
      | true =>
        have Hg := Lib.hid hg
        clear hg
        go_wp2_with fail
        refine (specIsName ss[k] _ hsz).mono ?_
        rintro e w1 ⟨rfl, rfl⟩
        rw [Hg.out]
        go_wp2_with fail
        refine (specIndexOf _ _ ss ss[k] _ hlen' hrow).mono ?_
        rintro e w1 ⟨rfl, rfl⟩
        by_cases hp : place ss ss[k] = (k : Int)
        · rw [hp]
          have Hp := Lib.hid hp
          clear hp
          go_wp2
          go_round
          case rel =>
            refine ⟨k + 1, by omega, by go_num, fun j h hj => ?_⟩
            by_cases hjk : j = k
            · subst hjk
              exact ⟨Hg.out, Hp.out⟩
            · exact Hall.out j h (by omega)
          case measure => simp [intOf]; omega
        · have hbad : goodVars ss = false := vars_bad hlt (fun h => hp h.2)
          have Hbad := Lib.hid hbad
          have hne : (place ss ss[k] != (k : Int)) = true := by simpa using hp
          clear hbad
          generalize place ss ss[k] = q at *
          go_wp2
          go_ret
          rw [Hbad.out]
          exact ⟨rfl, rfl⟩
    · have hgood : goodVars ss = decide (1 ≤ ss.length ∧ ss.length ≤ 4) := vars_whole fun j h => Hall.out j h (by omega)
      have Hgood := Lib.hid hgood
      clear hgood
      go_wp2_with fail
      refine (specIn ss.length 1 4 _).mono ?_
      rintro e w1 ⟨rfl, rfl⟩
      go_wp2
      go_ret
      rw [Hgood.out]
      exact ⟨by rw [← nat_in]; rfl, rfl⟩

theorem numInfo : (Tryz.prog.info? 3).map (fun i => (i.zero, i.size, i.bytes)) = some (some (.int .i64 0), 1, 8) := by kernel_rfl

set_option maxRecDepth 100000 in
set_option maxHeartbeats 800000 in
theorem specPositions (a : Option Addr) (cap : Nat) (ns : List Int) (n : Int) (w : World) (hlen : ns.length ≤ 1048576) (hrow : Row w w.heap.size a (intVals ns)) :
    Calls Tryz.prog 92 #[.slice a ns.length cap, .int .i64 n] w (Built w.heap.size 3 (intVals (posFrom n 0 ns)) w) := by
  obtain ⟨i0, hi, hz0, hz1, hz2⟩ := info_parts numInfo
  go_enter Tryz.func92, Tryz.ntmps92
  go_wp2
  go_loopw [5, 6] (fun v i wr => ∃ (k : Nat) (qs : List Int), k ≤ ns.length ∧ i = .int .i64 k ∧ qs.length ≤ k ∧ qs ++ posFrom n k (ns.drop k) = posFrom n 0 ns ∧ wr.ownsRow w.heap.size 3 1 v qs.length (intVals qs) ∧ Below w.heap.size w wr)
    (fun _ i _ => ns.length - (intOf i).toNat)
  case atStart => exact ⟨0, [], Nat.zero_le _, rfl, Nat.le_refl _, rfl, World.ownsRow_made w #[] 0 (Nat.le_refl _) (Nat.zero_le _) rfl, (Below.refl _ _).alloc (Nat.le_refl _) _⟩
  case round =>
    obtain ⟨k, qs, hk, rfl, hql, hq, hown, hbw⟩ := hrel
    have Hown := Lib.hid hown
    clear hown
    by_cases hlt : k < ns.length
    · obtain ⟨b, o, rfl, hbW, hc0⟩ := hrow k (.int .i64 ns[k]) (intVals_at ns k hlt)
      have hc : wr.cell? ⟨b, o + k, none⟩ = some (.int .i64 ns[k]) := (hbw.cell (p := ⟨b, o + k, none⟩) hbW).trans hc0
      clear hc0
      by_cases he : ns[k] = n
      · rw [pos_hit hlt he] at hq
        have Hq := Lib.hid hq
        have hd : (ns[k] == n) = true := by simpa using he
        clear hq he
        go_wp2_with (at_builtin; refine wpList_append_own _ rfl (.tmp 20) (.tmp 22) 25 rfl w.heap.size 3 i0 (.int .i64 0) 1 8 Tryz.underlying25 hi hz0 hz1 hz2 rfl (by decide) _ qs.length _ rfl (Hown.out.alloc _) ⟨wr.heap.size, 0, none⟩ 1 1 [.int .i64 (k : Int)] rfl rfl (oneCell_at _) (oneCell_int _) (by unfold maxLen; omega) (by omega) (Nat.le_trans hbw.size (by simp)) ?_; intro v2 w2 hown2 hg2 _; have hb2 := own_below (Hown.out.alloc _) hg2 (Nat.le_trans hbw.size (by simp)) (hbw.alloc hbw.size _); clear hg2)
        go_roundw
        case rel => exact ⟨k + 1, qs ++ [(k : Int)], by omega, by go_num, by simp; omega, by rw [← Hq.out]; simp, by rw [intVals_snoc, List.length_append, List.length_singleton]; exact hown2, hb2⟩
        case measure => simp [intOf]; omega
      · rw [pos_miss hlt he] at hq
        have Hq := Lib.hid hq
        have hd : (ns[k] == n) = false := by simpa using he
        clear hq he
        go_wp2
        go_roundw
        case rel => exact ⟨k + 1, qs, by omega, by go_num, by omega, Hq.out, Hown.out, hbw⟩
        case measure => simp [intOf]; omega
    · rw [pos_end (by omega), List.append_nil] at hq
      have Hq := Lib.hid hq
      clear hq
      go_wp2
      go_ret
      rw [← Hq.out]
      exact built_end (intVals_length _).symm Hown.out hbw
end Go.Proofs.YtglcailcdcpadaaGreatDoor
/-
  The model's test whether a number stands in a list.
-/
namespace Go.Proofs.YtglcailcdcpadaaGreatDoor
open Go Go.RowKit Go.Sort

set_option maxHeartbeats 800000 in
theorem specHas (a : Option Addr) (cap : Nat) (ns : List Int) (n : Int) (w : World) (hlen : ns.length ≤ 1048576) (hrow : Row w w.heap.size a (intVals ns)) :
    Calls Tryz.prog 53 #[.slice a ns.length cap, .int .i64 n] w (GaveX (.bool (decide (n ∈ ns))) w) := by
  have hp := posFrom_pos n ns
  have hpl := posFrom_length n ns 0
  have Hp := Lib.hid hp
  clear hp
  go_enter Tryz.func53, Tryz.ntmps53
  go_wp2_with fail
  refine (specPositions a cap ns n _ hlen hrow).mono ?_
  rintro e w1 ⟨ag, cg, rfl, hcg, hg, hb1⟩
  rw [intVals_length] at *
  go_wp2
  go_ret
  exact ⟨by rw [← Hp.out]; rfl, hb1⟩
end Go.Proofs.YtglcailcdcpadaaGreatDoor
