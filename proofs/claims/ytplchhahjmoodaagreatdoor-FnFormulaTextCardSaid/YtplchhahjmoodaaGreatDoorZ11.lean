/-
  Several texts of one proof in one file, in the order in which they build.
-/
import Derived.Test.YtplchhahjmoodaaGreatDoorChecked
import Derived.Test.YtplchhahjmoodaaGreatDoorZ05
/-
  What a name is, the place of a string in a list, a list of variables, the positions of a number in a list.
-/
namespace Go.Proofs.YtplchhahjmoodaaGreatDoor
open Go Go.RowKit

def goodName (s : ByteArray) : Bool := decide ((∀ k (h : k < s.size), 97 ≤ (s[k]'h).toNat ∧ (s[k]'h).toNat ≤ 122) ∧ 1 ≤ s.size ∧ s.size ≤ 2)
theorem name_bad {s : ByteArray} {k : Nat} (h : k < s.size) (hb : (s[k]'h).toNat < 97 ∨ 122 < (s[k]'h).toNat) : goodName s = false := by
  simp only [goodName, decide_eq_false_iff_not]
  intro hh
  have := hh.1 k h
  omega
theorem name_long {s : ByteArray} (h : 2 < s.size) : goodName s = false := by
  simp only [goodName, decide_eq_false_iff_not]
  omega
theorem name_whole {s : ByteArray} (h : ∀ k (h : k < s.size), 97 ≤ (s[k]'h).toNat ∧ (s[k]'h).toNat ≤ 122) : goodName s = decide (1 ≤ s.size ∧ s.size ≤ 2) := by
  simp only [goodName]
  congr 1
  simp only [eq_iff_iff]
  exact ⟨fun hh => hh.2, fun hh => ⟨h, hh⟩⟩

def placeFrom (s : ByteArray) : Nat → List ByteArray → Int
  | _, [] => -1
  | k, x :: xs => if (x.toList == s.toList) = true then (k : Int) else placeFrom s (k + 1) xs
def place (ss : List ByteArray) (s : ByteArray) : Int := placeFrom s 0 ss
theorem place_hit {ss : List ByteArray} {s : ByteArray} {k : Nat} (h : k < ss.length) (e : (ss[k].toList == s.toList) = true) : placeFrom s k (ss.drop k) = (k : Int) := by
  rw [List.drop_eq_getElem_cons h, placeFrom, if_pos e]
theorem place_miss {ss : List ByteArray} {s : ByteArray} {k : Nat} (h : k < ss.length) (e : (ss[k].toList == s.toList) = false) : placeFrom s k (ss.drop k) = placeFrom s (k + 1) (ss.drop (k + 1)) := by
  rw [List.drop_eq_getElem_cons h, placeFrom, if_neg (by simp [e])]
theorem place_end {ss : List ByteArray} {s : ByteArray} {k : Nat} (h : ss.length ≤ k) : placeFrom s k (ss.drop k) = -1 := by
  rw [List.drop_eq_nil_of_le h, placeFrom]
theorem placeFrom_bounds (s : ByteArray) : ∀ (ss : List ByteArray) (k : Nat), -1 ≤ placeFrom s k ss ∧ placeFrom s k ss < (k : Int) + ss.length + 1
  | [], k => by simp [placeFrom]; omega
  | x :: xs, k => by
    have := placeFrom_bounds s xs (k + 1)
    simp only [placeFrom, List.length_cons]
    split <;> omega
theorem place_bounds (ss : List ByteArray) (s : ByteArray) : -1 ≤ place ss s ∧ place ss s ≤ ss.length := by
  have := placeFrom_bounds s ss 0
  simp only [place]
  omega

def goodVars (ss : List ByteArray) : Bool := decide ((∀ k (h : k < ss.length), goodName ss[k] = true ∧ place ss ss[k] = (k : Int)) ∧ 1 ≤ ss.length ∧ ss.length ≤ 4)
theorem vars_bad {ss : List ByteArray} {k : Nat} (h : k < ss.length) (hb : ¬ (goodName ss[k] = true ∧ place ss ss[k] = (k : Int))) : goodVars ss = false := by
  simp only [goodVars, decide_eq_false_iff_not]
  exact fun hh => hb (hh.1 k h)
theorem vars_length {ss : List ByteArray} (h : ¬ (1 ≤ ss.length ∧ ss.length ≤ 4)) : goodVars ss = false := by
  simp only [goodVars, decide_eq_false_iff_not]
  exact fun hh => h hh.2
theorem vars_whole {ss : List ByteArray} (h : ∀ k (h : k < ss.length), goodName ss[k] = true ∧ place ss ss[k] = (k : Int)) : goodVars ss = decide (1 ≤ ss.length ∧ ss.length ≤ 4) := by
  simp only [goodVars]
  congr 1
  simp only [eq_iff_iff]
  exact ⟨fun hh => hh.2, fun hh => ⟨h, hh⟩⟩
theorem vars_at {ss : List ByteArray} (h : goodVars ss = true) {k : Nat} (hk : k < ss.length) : goodName ss[k] = true ∧ place ss ss[k] = (k : Int) := (of_decide_eq_true h).1 k hk

/-- Where a number stands in a list. -/
def posFrom (n : Int) : Nat → List Int → List Int
  | _, [] => []
  | k, z :: zs => if z = n then (k : Int) :: posFrom n (k + 1) zs else posFrom n (k + 1) zs
theorem pos_hit {zs : List Int} {n : Int} {k : Nat} (h : k < zs.length) (e : zs[k] = n) : posFrom n k (zs.drop k) = (k : Int) :: posFrom n (k + 1) (zs.drop (k + 1)) := by
  rw [List.drop_eq_getElem_cons h, posFrom, if_pos e]
theorem pos_miss {zs : List Int} {n : Int} {k : Nat} (h : k < zs.length) (e : zs[k] ≠ n) : posFrom n k (zs.drop k) = posFrom n (k + 1) (zs.drop (k + 1)) := by
  rw [List.drop_eq_getElem_cons h, posFrom, if_neg e]
theorem pos_end {zs : List Int} {n : Int} {k : Nat} (h : zs.length ≤ k) : posFrom n k (zs.drop k) = [] := by
  rw [List.drop_eq_nil_of_le h, posFrom]
theorem posFrom_length (n : Int) : ∀ (zs : List Int) (k : Nat), (posFrom n k zs).length ≤ zs.length
  | [], _ => by simp [posFrom]
  | z :: zs, k => by
    have := posFrom_length n zs (k + 1)
    simp only [posFrom, List.length_cons]
    split
    · simp; omega
    · omega
theorem posFrom_mem (n : Int) : ∀ (zs : List Int) (k : Nat) (z : Int), z ∈ posFrom n k zs → ∃ j : Nat, z = ((k + j : Nat) : Int) ∧ ∃ h : j < zs.length, zs[j] = n
  | [], _, _, h => by simp [posFrom] at h
  | x :: xs, k, z, h => by
    have hrec : z ∈ posFrom n (k + 1) xs → ∃ j : Nat, z = ((k + j : Nat) : Int) ∧ ∃ h : j < (x :: xs).length, (x :: xs)[j] = n := by
      intro h
      obtain ⟨j, e, hj, hn⟩ := posFrom_mem n xs (k + 1) z h
      exact ⟨j + 1, by rw [e]; congr 1; omega, by simp; omega, by simpa using hn⟩
    simp only [posFrom] at h
    split at h
    · rename_i hx
      rcases List.mem_cons.1 h with e | h
      · exact ⟨0, by simpa using e, by simp, by simpa using hx⟩
      · exact hrec h
    · exact hrec h
theorem posFrom_lt (n : Int) : ∀ (zs : List Int) (k : Nat), (posFrom n k zs).Pairwise (· < ·)
  | [], _ => by simp [posFrom]
  | x :: xs, k => by
    have h := posFrom_lt n xs (k + 1)
    simp only [posFrom]
    split
    · refine List.pairwise_cons.2 ⟨fun z hz => ?_, h⟩
      obtain ⟨j, e, _⟩ := posFrom_mem n xs (k + 1) z hz
      omega
    · exact h
end Go.Proofs.YtplchhahjmoodaaGreatDoor
/-
  The model's IsName, IndexOf, AreVars, Positions: what each returns.
-/
namespace Go.Proofs.YtplchhahjmoodaaGreatDoor
open Go Go.RowKit

theorem specIn (n lo hi : Int) (w : World) : Calls Tryz.prog 56 #[.int .i64 n, .int .i64 lo, .int .i64 hi] w fun e w' => e = .returned (.bool (decide (lo ≤ n) && decide (n ≤ hi))) ∧ w = w' := by
  by_cases h : lo ≤ n
  · rw [decide_eq_true h, Bool.true_and]
    go_enter Tryz.func56, Tryz.ntmps56
    go_wp2
    go_ret
    exact ⟨rfl, rfl⟩
  · rw [decide_eq_false h, Bool.false_and]
    go_enter Tryz.func56, Tryz.ntmps56
    go_wp2
    go_ret
    exact ⟨rfl, rfl⟩

theorem nat_in (n hi : Nat) : (decide ((1 : Int) ≤ (n : Int)) && decide ((n : Int) ≤ (hi : Int))) = decide (1 ≤ n ∧ n ≤ hi) := by
  rw [← Bool.decide_and]
  congr 1
  simp only [eq_iff_iff]
  omega

set_option maxHeartbeats 400000 in
theorem specIsName (s : ByteArray) (w : World) (hs : s.size ≤ maxLen) : Calls Tryz.prog 81 #[.string s] w fun e w' => e = .returned (.bool (goodName s)) ∧ w = w' := by
  unfold maxLen at hs
  go_enter Tryz.func81, Tryz.ntmps81
  go_wp2
  go_loop [3] (fun i => ∃ k : Nat, k ≤ s.size ∧ i = .int .i64 k ∧ ∀ j (h : j < s.size), j < k → 97 ≤ (s[j]'h).toNat ∧ (s[j]'h).toNat ≤ 122) (fun i => s.size - (intOf i).toNat)
  case atStart => exact ⟨0, Nat.zero_le _, rfl, fun j _ h => by omega⟩
  case round =>
    obtain ⟨k, hk, rfl, hall⟩ := hrel
    have Hall := Lib.hid hall
    clear hall
    by_cases hlt : k < s.size
    · by_cases hlo : (s[k].toNat : Int) < 97
      · have hbad : goodName s = false := name_bad hlt (.inl (by omega))
        have Hbad := Lib.hid hbad
        clear hbad
        go_wp2
        go_ret
        rw [Hbad.out]
        exact ⟨rfl, rfl⟩
      · by_cases hhi : 122 < (s[k].toNat : Int)
        · have hbad : goodName s = false := name_bad hlt (.inr (by omega))
          have Hbad := Lib.hid hbad
          clear hbad
          go_wp2
          go_ret
          rw [Hbad.out]
          exact ⟨rfl, rfl⟩
        · go_wp2
          go_round
          case rel =>
            refine ⟨k + 1, by omega, by go_num, fun j h hj => ?_⟩
            by_cases hjk : j = k
            · subst hjk
              omega
            · exact Hall.out j h (by omega)
          case measure => simp [intOf]; omega
    · have hgood : goodName s = decide (1 ≤ s.size ∧ s.size ≤ 2) := name_whole fun j h => Hall.out j h (by omega)
      have Hgood := Lib.hid hgood
      clear hgood
      go_wp2_with fail
      refine (specIn s.size 1 2 _).mono ?_
      rintro e w1 ⟨rfl, rfl⟩
      go_wp2
      go_ret
      rw [Hgood.out]
      exact ⟨by rw [← nat_in]; rfl, rfl⟩

set_option maxHeartbeats 400000 in
theorem specIndexOf (a : Option Addr) (cap : Nat) (ss : List ByteArray) (s : ByteArray) (w : World) (hlen : ss.length ≤ maxLen) (hrow : Row w w.heap.size a (strVals ss)) :
    Calls Tryz.prog 82 #[.slice a ss.length cap, .string s] w fun e w' => e = .returned (.int .i64 (place ss s)) ∧ w = w' := by
  unfold maxLen at hlen
  go_enter Tryz.func82, Tryz.ntmps82
  go_wp2
  go_loop [5] (fun i => ∃ k : Nat, k ≤ ss.length ∧ i = .int .i64 k ∧ place ss s = placeFrom s k (ss.drop k)) (fun i => ss.length - (intOf i).toNat)
  case atStart => exact ⟨0, Nat.zero_le _, rfl, rfl⟩
  case round =>
    obtain ⟨k, hk, rfl, hp⟩ := hrel
    by_cases hlt : k < ss.length
    · obtain ⟨b, o, rfl, hbW, hc⟩ := hrow k (.string ss[k]) (by simp [strVals, hlt])
      cases he : (ss[k].toList == s.toList) with
      | true =>
        rw [place_hit hlt he] at hp
        have Hp := Lib.hid hp
        clear hp
        go_wp2
        go_ret
        rw [Hp.out]
        exact ⟨rfl, rfl⟩
      | false =>
        rw [place_miss hlt he] at hp
        have Hp := Lib.hid hp
        clear hp
        go_wp2
        go_round
        case rel => exact ⟨k + 1, by omega, by go_num, Hp.out⟩
        case measure => simp [intOf]; omega
    · rw [place_end (by omega)] at hp
      have Hp := Lib.hid hp
      clear hp
      go_wp2
      go_ret
      rw [Hp.out]
      exact ⟨rfl, rfl⟩

set_option maxHeartbeats 400000 in
theorem specAreVars (a : Option Addr) (cap : Nat) (ss : List ByteArray) (w : World) (hlen : ss.length ≤ maxLen) (hws : ∀ s ∈ ss, s.size ≤ maxLen) (hrow : Row w w.heap.size a (strVals ss)) :
    Calls Tryz.prog 35 #[.slice a ss.length cap] w fun e w' => e = .returned (.bool (goodVars ss)) ∧ w = w' := by
  have hlen' := hlen
  unfold maxLen at hlen
  go_enter Tryz.func35, Tryz.ntmps35
  go_wp2
  go_loop [3] (fun i => ∃ k : Nat, k ≤ ss.length ∧ i = .int .i64 k ∧ ∀ j (h : j < ss.length), j < k → goodName ss[j] = true ∧ place ss ss[j] = (j : Int)) (fun i => ss.length - (intOf i).toNat)
  case atStart => exact ⟨0, Nat.zero_le _, rfl, fun j _ h => by omega⟩
  case round =>
    obtain ⟨k, hk, rfl, hall⟩ := hrel
    have Hall := Lib.hid hall
    clear hall
    by_cases hlt : k < ss.length
    · obtain ⟨b, o, rfl, hbW, hc⟩ := hrow k (.string ss[k]) (by simp [strVals, hlt])
      have hsz := hws ss[k] (List.getElem_mem hlt)
      cases hg : goodName ss[k] with
      | false =>
        have hbad : goodVars ss = false := vars_bad hlt (by rw [hg]; simp)
        have Hbad := Lib.hid hbad
        have Hg := Lib.hid hg
        clear hbad hg
        go_wp2_with fail
        refine (specIsName ss[k] _ hsz).mono ?_
        rintro e w1 ⟨rfl, rfl⟩
        rw [Hg.out]
        go_wp2
        go_ret
        rw [Hbad.out]
        exact ⟨rfl, rfl⟩
      | true =>
        have Hg := Lib.hid hg
        clear hg
        go_wp2_with fail
        refine (specIsName ss[k] _ hsz).mono ?_
        rintro e w1 ⟨rfl, rfl⟩
        rw [Hg.out]
        go_wp2_with fail
        refine (specIndexOf _ _ ss ss[k] _ hlen' hrow).mono ?_
        rintro e w1 ⟨rfl, rfl⟩
        by_cases hp : place ss ss[k] = (k : Int)
        · rw [hp]
          have Hp := Lib.hid hp
          clear hp
          go_wp2
          go_round
          case rel =>
            refine ⟨k + 1, by omega, by go_num, fun j h hj => ?_⟩
            by_cases hjk : j = k
            · subst hjk
              exact ⟨Hg.out, Hp.out⟩
            · exact Hall.out j h (by omega)
          case measure => simp [intOf]; omega
        · have hbad : goodVars ss = false := vars_bad hlt (fun h => hp h.2)
          have Hbad := Lib.hid hbad
          have hne : (place ss ss[k] != (k : Int)) = true := by simpa using hp
          clear hbad
          generalize place ss ss[k] = q at *
          go_wp2
          go_ret
          rw [Hbad.out]
          exact ⟨rfl, rfl⟩
    · have hgood : goodVars ss = decide (1 ≤ ss.length ∧ ss.length ≤ 4) := vars_whole fun j h => Hall.out j h (by omega)
      have Hgood := Lib.hid hgood
      clear hgood
      go_wp2_with fail
      refine (specIn ss.length 1 4 _).mono ?_
      rintro e w1 ⟨rfl, rfl⟩
      go_wp2
      go_ret
      rw [Hgood.out]
      exact ⟨by rw [← nat_in]; rfl, rfl⟩

theorem numInfo : (Tryz.prog.info? 3).map (fun i => (i.zero, i.size, i.bytes)) = some (some (.int .i64 0), 1, 8) := by kernel_rfl

set_option maxRecDepth 100000 in
set_option maxHeartbeats 800000 in
theorem specPositions (a : Option Addr) (cap : Nat) (ns : List Int) (n : Int) (w : World) (hlen : ns.length ≤ 1048576) (hrow : Row w w.heap.size a (intVals ns)) :
    Calls Tryz.prog 102 #[.slice a ns.length cap, .int .i64 n] w (Built w.heap.size 3 (intVals (posFrom n 0 ns)) w) := by
  obtain ⟨i0, hi, hz0, hz1, hz2⟩ := info_parts numInfo
  go_enter Tryz.func102, Tryz.ntmps102
  go_wp2
  go_loopw [5, 6] (fun v i wr => ∃ (k : Nat) (qs : List Int), k ≤ ns.length ∧ i = .int .i64 k ∧ qs.length ≤ k ∧ qs ++ posFrom n k (ns.drop k) = posFrom n 0 ns ∧ wr.ownsRow w.heap.size 3 1 v qs.length (intVals qs) ∧ Below w.heap.size w wr)
    (fun _ i _ => ns.length - (intOf i).toNat)
  case atStart => exact ⟨0, [], Nat.zero_le _, rfl, Nat.le_refl _, rfl, World.ownsRow_made w #[] 0 (Nat.le_refl _) (Nat.zero_le _) rfl, (Below.refl _ _).alloc (Nat.le_refl _) _⟩
  case round =>
    obtain ⟨k, qs, hk, rfl, hql, hq, hown, hbw⟩ := hrel
    have Hown := Lib.hid hown
    clear hown
    by_cases hlt : k < ns.length
    · obtain ⟨b, o, rfl, hbW, hc0⟩ := hrow k (.int .i64 ns[k]) (intVals_at ns k hlt)
      have hc : wr.cell? ⟨b, o + k, none⟩ = some (.int .i64 ns[k]) := (hbw.cell (p := ⟨b, o + k, none⟩) hbW).trans hc0
      clear hc0
      by_cases he : ns[k] = n
      · rw [pos_hit hlt he] at hq
        have Hq := Lib.hid hq
        have hd : (ns[k] == n) = true := by simpa using he
        clear hq he
        go_wp2_with (at_builtin; refine wpList_append_own _ rfl (.tmp 20) (.tmp 22) 37 rfl w.heap.size 3 i0 (.int .i64 0) 1 8 Tryz.underlying37 hi hz0 hz1 hz2 rfl (by decide) _ qs.length _ rfl (Hown.out.alloc _) ⟨wr.heap.size, 0, none⟩ 1 1 [.int .i64 (k : Int)] rfl rfl (oneCell_at _) (oneCell_int _) (by unfold maxLen; omega) (by omega) (Nat.le_trans hbw.size (by simp)) ?_; intro v2 w2 hown2 hg2 _; have hb2 := own_below (Hown.out.alloc _) hg2 (Nat.le_trans hbw.size (by simp)) (hbw.alloc hbw.size _); clear hg2)
        go_roundw
        case rel => exact ⟨k + 1, qs ++ [(k : Int)], by omega, by go_num, by simp; omega, by rw [← Hq.out]; simp, by rw [intVals_snoc, List.length_append, List.length_singleton]; exact hown2, hb2⟩
        case measure => simp [intOf]; omega
      · rw [pos_miss hlt he] at hq
        have Hq := Lib.hid hq
        have hd : (ns[k] == n) = false := by simpa using he
        clear hq he
        go_wp2
        go_roundw
        case rel => exact ⟨k + 1, qs, by omega, by go_num, by omega, Hq.out, Hown.out, hbw⟩
        case measure => simp [intOf]; omega
    · rw [pos_end (by omega), List.append_nil] at hq
      have Hq := Lib.hid hq
      clear hq
      go_wp2
      go_ret
      rw [← Hq.out]
      exact built_end (intVals_length _).symm Hown.out hbw
end Go.Proofs.YtplchhahjmoodaaGreatDoor
