/-
  Several texts of one proof in one file, in the order in which they build.
-/
import Derived.Laws.RangeAny
import Derived.Laws.IdiomCopy
import Derived.Deep.RegionHeld3
import Derived.Maps.AppendAt
import Derived.Lib.QuietBelow
import Derived.Test.YtpmmjaceehlpiaaDoorZ01
/-
  The program's IsName, IndexOf, AreVars, Positions: what each returns.
-/
namespace Go.Proofs.YtpmmjaceehlpiaaDoor
open Go Go.RowKit

set_option maxHeartbeats 400000 in
theorem implIsName (s : ByteArray) (w : World) (hs : s.size ≤ maxLen) : Calls Tryd.prog 92 #[.string s] w fun e w' => e = .returned (.bool (goodName s)) ∧ Below w.heap.size w w' := by
  unfold maxLen at hs
  go_enter Tryd.func92, Tryd.ntmps92
  go_wp2
  go_loopw [3] (fun _ wr => ∃ k : Nat, k ≤ s.size ∧ k ≤ 2 ∧ wr = w.iter s k ∧ ∀ j (h : j < s.size), j < k → 97 ≤ (s[j]'h).toNat ∧ (s[j]'h).toNat ≤ 122) (fun _ wr => s.size - wr.iterPos w.heap.size)
  case atStart => exact ⟨0, Nat.zero_le _, by omega, rfl, fun j _ h => by omega⟩
  case round =>
    obtain ⟨k, hk, hk2, rfl, hall⟩ := hrel
    have Hall := Lib.hid hall
    clear hall
    by_cases hlt : k < s.size
    · by_cases hlow : (s[k]'hlt).toNat < 128
      · have hnx : ∀ ty, (Instr.next (.pointer (some ⟨w.heap.size, 0, none⟩)) true ty).run Tryd.prog (w.iter s k) = _ := fun ty => run_next_ascii w s k ty hlt hlow
        by_cases htwo : k = 2
        · subst htwo
          have hbad : goodName s = false := name_long hlt
          have Hbad := Lib.hid hbad
          clear hbad
          go_wp2
          go_ret
          rw [Hbad.out]
          exact ⟨rfl, (Below.refl _ _).alloc (Nat.le_refl _) _⟩
        · have htwo' : ((k : Int) == 2) = false := by simp; omega
          by_cases hlo : ((s[k]'hlt).toNat : Int) < 97
          · have hbad : goodName s = false := name_bad hlt (.inl (by omega))
            have Hbad := Lib.hid hbad
            clear hbad
            go_wp2
            go_ret
            rw [Hbad.out]
            exact ⟨rfl, (Below.refl _ _).alloc (Nat.le_refl _) _⟩
          · by_cases hhi : 122 < ((s[k]'hlt).toNat : Int)
            · have hbad : goodName s = false := name_bad hlt (.inr (by omega))
              have Hbad := Lib.hid hbad
              clear hbad
              go_wp2
              go_ret
              rw [Hbad.out]
              exact ⟨rfl, (Below.refl _ _).alloc (Nat.le_refl _) _⟩
            · go_wp2
              go_roundw
              case rel =>
                refine ⟨k + 1, by omega, by omega, rfl, fun j h hj => ?_⟩
                by_cases hjk : j = k
                · subst hjk
                  omega
                · exact Hall.out j h (by omega)
              case measure => simp; omega
      · have hnx : ∀ ty, (Instr.next (.pointer (some ⟨w.heap.size, 0, none⟩)) true ty).run Tryd.prog (w.iter s k) = _ := fun ty => run_next_any w s k ty hlt
        have hhigh := (decode_high s k hlt (by omega)).1
        have hbad : goodName s = false := name_bad hlt (.inr (by omega))
        have Hbad := Lib.hid hbad
        clear hbad
        generalize Utf8.decode s k = dc at *
        have hlo : ¬ (dc.1 : Int) < 97 := by omega
        have hhi : 122 < (dc.1 : Int) := by omega
        by_cases htwo : k = 2
        · subst htwo
          go_wp2
          go_ret
          rw [Hbad.out]
          exact ⟨rfl, (Below.refl _ _).alloc (Nat.le_refl _) _⟩
        · have htwo' : ((k : Int) == 2) = false := by simp; omega
          go_wp2
          go_ret
          rw [Hbad.out]
          exact ⟨rfl, (Below.refl _ _).alloc (Nat.le_refl _) _⟩
    · have hnx : ∀ ty, (Instr.next (.pointer (some ⟨w.heap.size, 0, none⟩)) true ty).run Tryd.prog (w.iter s k) = _ := fun ty => run_next_end w s k ty hlt
      have hgood : goodName s = decide (1 ≤ s.size ∧ s.size ≤ 2) := name_whole fun j h => Hall.out j h (by omega)
      have Hgood := Lib.hid hgood
      clear hgood
      by_cases h0 : s = ⟨#[]⟩
      · subst h0
        go_wp2
        go_ret
        rw [Hgood.out]
        exact ⟨rfl, (Below.refl _ _).alloc (Nat.le_refl _) _⟩
      · have hsz : 1 ≤ s.size := by
          rcases Nat.eq_zero_or_pos s.size with h | h
          · exact absurd (ByteArray.size_eq_zero_iff.1 h) h0
          · exact h
        have hne : s.toList.isEmpty = false := by
          rw [ByteArray.toList_eq]
          simpa using (fun h => by simp [ByteArray.size, h] at hsz)
        go_wp2
        go_ret
        rw [Hgood.out, decide_eq_true ⟨hsz, by omega⟩]
        exact ⟨rfl, (Below.refl _ _).alloc (Nat.le_refl _) _⟩

set_option maxHeartbeats 400000 in
theorem implIndexOf (a : Option Addr) (cap : Nat) (ss : List ByteArray) (s : ByteArray) (w : World) (hlen : ss.length ≤ maxLen) (hrow : Row w w.heap.size a (strVals ss)) :
    Calls Tryd.prog 39 #[.slice a ss.length cap, .string s] w fun e w' => e = .returned (.int .i64 (place ss s)) ∧ w = w' := by
  unfold maxLen at hlen
  go_enter Tryd.func39, Tryd.ntmps39
  go_wp2
  go_loop [9] (fun i => ∃ k : Nat, k ≤ ss.length ∧ i = .int .i64 k ∧ place ss s = placeFrom s k (ss.drop k)) (fun i => ss.length - (intOf i).toNat)
  case atStart => exact ⟨0, Nat.zero_le _, rfl, rfl⟩
  case round =>
    obtain ⟨k, hk, rfl, hp⟩ := hrel
    by_cases hlt : k < ss.length
    · obtain ⟨b, o, rfl, hbW, hc⟩ := hrow k (.string ss[k]) (by simp [strVals, hlt])
      cases he : (ss[k].toList == s.toList) with
      | true =>
        rw [place_hit hlt he] at hp
        have Hp := Lib.hid hp
        clear hp
        go_wp2
        go_ret
        rw [Hp.out]
        exact ⟨rfl, rfl⟩
      | false =>
        rw [place_miss hlt he] at hp
        have Hp := Lib.hid hp
        clear hp
        go_wp2
        go_round
        case rel => exact ⟨k + 1, by omega, by go_num, Hp.out⟩
        case measure => simp [intOf]; omega
    · rw [place_end (by omega)] at hp
      have Hp := Lib.hid hp
      clear hp
      go_wp2
      go_ret
      rw [Hp.out]
      exact ⟨rfl, rfl⟩

set_option maxHeartbeats 400000 in
theorem implAreVars (a : Option Addr) (cap : Nat) (ss : List ByteArray) (w : World) (hlen : ss.length ≤ maxLen) (hws : ∀ s ∈ ss, s.size ≤ maxLen) (hrow : Row w w.heap.size a (strVals ss)) :
    Calls Tryd.prog 67 #[.slice a ss.length cap] w fun e w' => e = .returned (.bool (goodVars ss)) ∧ Below w.heap.size w w' := by
  have hlen' := hlen
  unfold maxLen at hlen
  by_cases hin : 1 ≤ ss.length ∧ ss.length ≤ 4
  · have h0 : ((ss.length : Int) == 0) = false := by simp only [beq_eq_false_iff_ne, ne_eq]; omega
    have h4 : ¬ 4 < (ss.length : Int) := by omega
    go_enter Tryd.func67, Tryd.ntmps67
    go_wp2
    go_loopw [15] (fun i wr => ∃ k : Nat, k ≤ ss.length ∧ i = .int .i64 k ∧ Below w.heap.size w wr ∧ ∀ j (h : j < ss.length), j < k → goodName ss[j] = true ∧ place ss ss[j] = (j : Int)) (fun i _ => ss.length - (intOf i).toNat)
    case atStart => exact ⟨0, Nat.zero_le _, rfl, Below.refl _ _, fun j _ h => by omega⟩
    case round =>
      obtain ⟨k, hk, rfl, hb, hall⟩ := hrel
      have Hall := Lib.hid hall
      clear hall
      by_cases hlt : k < ss.length
      · obtain ⟨b, o, rfl, hbW, hc0⟩ := hrow k (.string ss[k]) (by simp [strVals, hlt])
        have hc : wr.cell? ⟨b, o + k, none⟩ = some (.string ss[k]) := (hb.cell (p := ⟨b, o + k, none⟩) hbW).trans hc0
        clear hc0
        have hsz := hws ss[k] (List.getElem_mem hlt)
        cases hg : goodName ss[k] with
        | false =>
          have hbad : goodVars ss = false := vars_bad hlt (by rw [hg]; simp)
          have Hbad := Lib.hid hbad
          have Hg := Lib.hid hg
          clear hbad hg
          go_wp2_with fail
          refine (implIsName ss[k] _ hsz).mono ?_
          rintro e w1 ⟨rfl, hb1⟩
          rw [Hg.out]
          have hb2 := hb.trans (hb1.mono hb.size)
          clear hb1
          go_wp2
          go_ret
          rw [Hbad.out]
          exact ⟨rfl, hb2⟩
        | true =>
          have Hg := Lib.hid hg
          clear hg
          go_wp2_with fail
          refine (implIsName ss[k] _ hsz).mono ?_
          rintro e w1 ⟨rfl, hb1⟩
          rw [Hg.out]
          have hb2 := hb.trans (hb1.mono hb.size)
          clear hb1 hc
          go_wp2_with fail
          refine (implIndexOf _ _ ss ss[k] _ hlen' ((hrow.below hb2).grow hb2.size)).mono ?_
          rintro e w1 ⟨rfl, rfl⟩
          by_cases hp : place ss ss[k] = (k : Int)
          · rw [hp]
            have Hp := Lib.hid hp
            clear hp
            go_wp2
            go_roundw
            case rel =>
              refine ⟨k + 1, by omega, by go_num, hb2, fun j h hj => ?_⟩
              by_cases hjk : j = k
              · subst hjk
                exact ⟨Hg.out, Hp.out⟩
              · exact Hall.out j h (by omega)
            case measure => simp [intOf]; omega
          · have hbad : goodVars ss = false := vars_bad hlt (fun h => hp h.2)
            have Hbad := Lib.hid hbad
            have hne : (place ss ss[k] != (k : Int)) = true := by simpa using hp
            clear hbad
            generalize place ss ss[k] = q at *
            go_wp2
            go_ret
            rw [Hbad.out]
            exact ⟨rfl, hb2⟩
      · have hgood : goodVars ss = true := by
          rw [vars_whole fun j h => Hall.out j h (by omega)]
          exact decide_eq_true hin
        have Hgood := Lib.hid hgood
        clear hgood
        go_wp2
        go_ret
        rw [Hgood.out]
        exact ⟨rfl, hb⟩
  · have hbad : goodVars ss = false := vars_length hin
    have Hbad := Lib.hid hbad
    clear hbad
    rcases Nat.eq_zero_or_pos ss.length with h | h
    · rw [h]
      go_enter Tryd.func67, Tryd.ntmps67
      go_wp2
      go_ret
      rw [Hbad.out]
      exact ⟨rfl, Below.refl _ _⟩
    · have h0 : ((ss.length : Int) == 0) = false := by simp only [beq_eq_false_iff_ne, ne_eq]; omega
      have h4 : 4 < (ss.length : Int) := by omega
      go_enter Tryd.func67, Tryd.ntmps67
      go_wp2
      go_ret
      rw [Hbad.out]
      exact ⟨rfl, Below.refl _ _⟩

end Go.Proofs.YtpmmjaceehlpiaaDoor
/-
  Go's library over rows of numbers: a copy, a question, a cell taken out. The library's contracts are the shelf's.
-/
namespace Go.Proofs.YtpmmjaceehlpiaaDoor
open Go Go.RowKit Go.ChangeShapes Go.WideShapes Go.ChangeAt

theorem row_cells {w : World} {B : Nat} {a : Option Addr} {ns : List Int} (h : Row w B a (intVals ns)) (hn : ns ≠ []) : ∃ b o, a = some ⟨b, o, none⟩ ∧ b < B ∧ ∀ j, j < ns.length → w.cell? ⟨b, o + j, none⟩ = some (.int .i64 (ns.getD j 0)) := by
  have h0 : 0 < ns.length := List.length_pos_iff.2 hn
  obtain ⟨b, o, rfl, hb, _⟩ := h 0 _ (intVals_at ns 0 h0)
  refine ⟨b, o, rfl, hb, fun j hj => ?_⟩
  obtain ⟨b', o', e, _, hc⟩ := h j _ (intVals_at ns j hj)
  injection e with e
  injection e with e1 e2
  subst e1 e2
  rw [hc]
  simp [hj]

theorem libContains (a : Option Addr) (c : Nat) (ns : List Int) (x : Int) (w : World) (hn : ns.length ≤ maxLen) (h : Row w w.heap.size a (intVals ns)) :
    Calls Tryd.prog 95 #[.slice a ns.length c, .int .i64 x] w fun e w' => e = .returned (.bool (decide (x ∈ ns))) ∧ w = w' := by
  by_cases h0 : ns = []
  · subst h0
    refine (Tryd.slices_Contains_int_empty a c x w).mono ?_
    rintro e w' ⟨rfl, rfl⟩
    exact ⟨by simp, rfl⟩
  · obtain ⟨b, o, rfl, _, hc⟩ := row_cells h h0
    refine (Tryd.slices_Contains_int b o ns.length c ns x w (Nat.le_refl _) (by unfold maxLen at hn; omega) hc).mono ?_
    rintro e w' ⟨rfl, rfl⟩
    exact ⟨by rw [List.take_length]; simp, rfl⟩

/-- A copy of a row of numbers. -/
def CopyInts (ns : List Int) (w : World) (e : Ending) (w' : World) : Prop :=
  ∃ a c, e = .returned (.slice a ns.length c) ∧ w'.ownsRow w.heap.size 3 1 (.slice a ns.length c) ns.length (intVals ns) ∧ Below w.heap.size w w'
theorem own_shape2 {w : World} {base e size n : Nat} {v : Value} {xs : List Value} (h : w.ownsRow base e size v n xs) : ∃ a c, v = .slice a n c := by
  rcases h.2 with ⟨rfl, rfl⟩ | ⟨g, cap, cur, rfl, _, _, hc, _⟩
  · exact ⟨_, _, rfl⟩
  · exact ⟨_, _, rfl⟩
theorem libClone (a : Option Addr) (c : Nat) (ns : List Int) (w : World) (hn : ns.length ≤ 1048576) (h : Row w w.heap.size a (intVals ns)) :
    Calls Tryd.prog 82 #[.slice a ns.length c] w (CopyInts ns w) := by
  by_cases h0 : ns = []
  · subst h0
    cases a with
    | none =>
      refine (Tryd.slices_Clone_int_nil 0 c w).mono ?_
      rintro e w' ⟨rfl, rfl⟩
      exact ⟨none, 0, rfl, World.ownsRow_nil _ _ _ _, Below.refl _ _⟩
    | some a =>
      refine (Tryd.slices_Clone_int_zero a c w).mono ?_
      rintro e w' ⟨v', rfl, ho, _, hb⟩
      obtain ⟨a', c', rfl⟩ := own_shape2 ho
      exact ⟨a', c', rfl, ho, hb⟩
  · obtain ⟨b, o, rfl, _, hc⟩ := row_cells h h0
    refine (Tryd.slices_Clone_int b o ns.length c ns w (Nat.le_refl _) (by omega) hc).mono ?_
    rintro e w' ⟨v', rfl, ho, _, hb⟩
    obtain ⟨a', c', rfl⟩ := own_shape2 ho
    rw [List.take_length] at ho
    exact ⟨a', c', rfl, ho, hb⟩

theorem own_cells {base e n cap g : Nat} : ∀ (us : List Value) (o : Nat) {w : World} {xs : List Value}, w.ownsRow base e 1 (.slice (some ⟨g, 0, none⟩) n cap) n xs → o + us.length = n →
    (w.setCells g o us).ownsRow base e 1 (.slice (some ⟨g, 0, none⟩) n cap) n (xs.take o ++ us) ∧ Turn g (g + 1) w (w.setCells g o us)
  | [], o, w, xs, h, hl => by
    have hx := h.1
    simp only [List.length_nil, Nat.add_zero, Nat.mul_one] at hl hx
    rw [List.append_nil, List.take_of_length_le (by omega)]
    exact ⟨h, Turn.of_below (Below.refl _ _)⟩
  | u :: us, o, w, xs, h, hl => by
    have hx := h.1
    simp only [List.length_cons, Nat.mul_one] at hl hx
    have h1 := own_cells us (o + 1) (h.stored o u).1 (by omega)
    have hset : (xs.set o u).take (o + 1) = xs.take o ++ [u] := by
      rw [List.take_succ_eq_append_getElem (by simp; omega)]
      simp [List.take_set_of_le]
    rw [hset, List.append_assoc] at h1
    exact ⟨h1.1, (turn_cell w g o u).trans h1.2⟩
where turn_cell (W : World) (b i : Nat) (u : Value) : Turn b (b + 1) W (W.setCell ⟨b, i, none⟩ u) :=
  ⟨rfl, rfl, rfl, by simp, fun k _ hd => Below.heap_setCell _ _ _ _ (by show k ≠ b; omega)⟩
theorem own_less {w : World} {base e n m cap g : Nat} {xs : List Value} (h : w.ownsRow base e 1 (.slice (some ⟨g, 0, none⟩) n cap) n xs) (hm : m ≤ n) : w.ownsRow base e 1 (.slice (some ⟨g, 0, none⟩) m cap) m (xs.take m) := by
  have hx := h.1
  rcases h.2 with ⟨hv, _⟩ | ⟨g', cap', cur, hv, hb, hg, hnc, hcm, hcs, ht⟩
  · cases hv
  · simp only [Value.slice.injEq, Option.some.injEq, Addr.mk.injEq, and_true, true_and] at hv
    obtain ⟨rfl, rfl⟩ := hv
    refine ⟨by simp; omega, .inr ⟨g, cap, cur, rfl, hb, hg, by omega, hcm, hcs, ?_⟩⟩
    rw [← ht, List.take_take]
    congr 1
    omega

/-- One cell taken out of a row that may be written. -/
def TakenInt (lo hi g k c : Nat) (ns : List Int) (w : World) (e : Ending) (w' : World) : Prop :=
  e = .returned (.slice (some ⟨g, 0, none⟩) (ns.length - 1) c) ∧ OwnIn lo hi w' 3 1 (.slice (some ⟨g, 0, none⟩) (ns.length - 1) c) (ns.length - 1) (intVals (ns.eraseIdx k)) ∧ Turn g (g + 1) w w'
theorem libDelete {lo hi g k c : Nat} {ns : List Int} {w : World} (hk : k < ns.length) (h : OwnIn lo hi w 3 1 (.slice (some ⟨g, 0, none⟩) ns.length c) ns.length (intVals ns)) :
    Calls Tryd.prog 103 #[.slice (some ⟨g, 0, none⟩) ns.length c, .int .i64 (k : Int), .int .i64 ((k + 1 : Nat) : Int)] w (TakenInt lo hi g k c ns w) := by
  have hcap : ns.length ≤ c ∧ c ≤ 9223372036854775807 := by
    rcases h.2.1.2 with ⟨hv, _⟩ | ⟨g', cap', cur, hv, hb, hg, hnc, hcm, hcs, ht⟩
    · cases hv
    · simp only [Value.slice.injEq, Option.some.injEq, Addr.mk.injEq, and_true, true_and] at hv
      obtain ⟨rfl, rfl⟩ := hv
      unfold maxLen at hcm
      omega
  have hfr := h.2.1.frozenAt
  have hrow := h.row
  obtain ⟨b, o, e, _, hc⟩ := row_cells hrow (fun e => by rw [e] at hk; simp at hk)
  injection e with e
  injection e with e1 e2
  subst e1 e2
  refine (Tryd.slices_Delete_int_cells g 0 ns.length c k (k + 1) ns w (Nat.le_refl _) hcap.1 hcap.2 (by omega) (by omega) hc (fun j _ => by rw [Nat.zero_add]; exact hfr j)).mono ?_
  rintro e w' ⟨rfl, q, rfl⟩
  rw [List.take_length, show k + 1 - k = 1 by omega]
  have hown : (w.drewN q).ownsRow lo 3 1 (.slice (some ⟨g, 0, none⟩) ns.length c) ns.length (intVals ns) := own_keeps h.2.1 (below_draws (Below.refl _ _) q)
  obtain ⟨h1, t1⟩ := own_cells (ns.take k ++ ns.drop (k + 1) ++ List.replicate 1 0 |>.map (Value.int .i64)) 0 hown (by simp; omega)
  have h2 := own_less h1 (m := ns.length - 1) (by omega)
  have T : Turn g (g + 1) w ((w.drewN q).setCells g 0 ((ns.take k ++ ns.drop (k + 1) ++ List.replicate 1 0).map (Value.int .i64))) := (Turn.of_below (below_draws (Below.refl _ _) q)).trans t1
  refine ⟨rfl, ⟨Nat.le_trans h.1 T.size, ?_, fun j hj => h.2.2 j hj⟩, T⟩
  have e : intVals (ns.eraseIdx k) = ((intVals ns).take 0 ++ (ns.take k ++ ns.drop (k + 1) ++ List.replicate 1 0).map (Value.int .i64)).take (ns.length - 1) := by
    rw [List.take_zero, List.nil_append, ← List.map_take, List.take_append_of_le_length (by simp; omega), List.take_of_length_le (by simp; omega), List.eraseIdx_eq_take_drop_succ]
    rfl
  rw [e]
  exact h2
end Go.Proofs.YtpmmjaceehlpiaaDoor
/-
  The program's walks over a heap: which numbers are cells, following, numbering.
-/
namespace Go.Proofs.YtpmmjaceehlpiaaDoor
open Go Go.RowKit Go.Maps

theorem implIsCell (a b : Option Addr) (na ca cb : Nat) (zs : List Int) (c : Int) (w : World) : Calls Tryd.prog 93 #[.agg #[.slice a na ca, .slice b zs.length cb], .int .i64 c] w (GaveX (.bool (isC zs c)) w) := by
  by_cases h0 : 0 ≤ c <;> by_cases h1 : c < zs.length
  all_goals
    go_enter Tryd.func93, Tryd.ntmps93
    go_wp2
    go_ret
    exact ⟨by simp [isC, h0, h1], (Below.refl _ _).alloc (Nat.le_refl _) _⟩

set_option maxRecDepth 100000 in
set_option maxHeartbeats 1600000 in
theorem implNumberFrom {H : Type} (a b : Option Addr) (na ca cb : Nat) (zs : List Int) (c : Int) (mb : Nat) (o : List Int) (w : World) (hz : zs.length ≤ 1048576) (hrow : Row w w.heap.size b (intVals zs)) (hE : OrdEnd zs o) (hown : Numbers H w mb o) :
    Calls Tryd.prog 98 #[.agg #[.slice a na ca, .slice b zs.length cb], .int .i64 c, .map (some mb)] w fun e w' => ∃ x : Int, e = .returned (.int .i64 x) ∧ Numbers H w' mb (addAll o (chain zs zs.length c)) ∧ w.grownBy w' (some mb) ∧ (o = [] → (decide (x ≠ -1) && !isC zs x) = badEnd zs zs.length c) := by
  have hmb : mb < w.heap.size := World.ownsMap.lt hown
  go_enter Tryd.func98, Tryd.ntmps98
  go_wp2_with fail
  obtain ⟨W0, hW0, hb0, hs0, hA0⟩ := one_box2 w (.slice a na ca) (.slice b zs.length cb) 29
  rw [hW0]
  clear hW0
  have hn0 := Numbers.below hown hb0
  have hr0 : Row W0 W0.heap.size b (intVals zs) := (hrow.below hb0).grow hb0.size
  go_loopw [1] (fun v wr => ∃ (cc : Int) (o1 : List Int) (n : Nat), v = .int .i64 cc ∧ Going zs o c o1 cc n ∧ Numbers H wr mb o1 ∧ W0.grownBy wr (some mb)) (fun _ wr => zs.length - mapSize wr mb)
  case atStart => exact ⟨c, o, zs.length, rfl, Going.start hE.toOrdOk hE.closed, hn0, grown_self _ _⟩
  case round =>
    obtain ⟨cc, o1, n, rfl, hgo, hnum, hgr⟩ := hrel
    have hrr := Numbers.row hn0 hr0 hgr
    have hsz := World.ownsMap.mapSize_eq hnum
    have hsay := says (H := H) hgo.ok.nodup
    have hlen := hgo.ok.len
    have hg0 : w.heap.size ≠ mb := by omega
    obtain ⟨c0, c1⟩ : Box2 wr w.heap.size (.slice a na ca) (.slice b zs.length cb) := ⟨hgr.cell hA0.1 (by simpa using hg0), hgr.cell hA0.2 (by simpa using hg0)⟩
    have hA1 : Box2 wr w.heap.size (.slice a na ca) (.slice b zs.length cb) := ⟨c0, c1⟩
    have hs1 : w.heap.size < wr.heap.size := Nat.lt_of_lt_of_le hs0 hgr.size
    rw [hsay.size_] at hsz
    have Hgo := Lib.hid hgo
    have Hsay := Lib.hid hsay
    have Hsz := Lib.hid hsz
    clear hgo hsay hsz
    go_wp2_with fail
    refine (implIsCell a b na ca cb zs cc _).mono ?_
    rintro e w1 ⟨rfl, hb1⟩
    have hnum1 := Numbers.below hnum hb1
    have hr1 := hrr.below (hb1.mono hgr.size)
    have hgr1 : W0.grownBy w1 (some mb) := grown_below hgr hb1
    clear c0 c1
    obtain ⟨c0, c1⟩ := hA1.keep hs1 hb1
    cases hc : isC zs cc with
    | false =>
      have Hend := Lib.hid (Hgo.out.stop (.inl hc))
      go_wp2
      go_ret
      exact ⟨cc, rfl, by rw [Hend.out.1]; exact hnum1, ⟨hgr1.os.trans hb0.os, hgr1.tape.trans hb0.tape, hgr1.output.trans hb0.output, Nat.le_trans hb0.size hgr1.size, fun k hk hne => (hgr1.block k (Nat.lt_of_lt_of_le hk hb0.size) hne).trans (hb0.block k hk)⟩, Hend.out.2.2⟩
    | true =>
      obtain ⟨k, rfl, hk⟩ := isC_nat hc
      have hwf : (Lit.int .i64 (k : Int)).wf = true := WalkArith.wf_i64 (by omega)
      have Hnum1 := Lib.hid hnum1
      by_cases hm : (k : Int) ∈ o1
      · have Hend := Lib.hid (Hgo.out.stop (.inr hm))
        have Hm := Lib.hid (decide_eq_true hm)
        clear hm
        go_wp2_with (first
          | (at_lookup; refine wpList_lookup_own_ok_int _ rfl _ _ 88 rfl 3 3 .i64 lawK Tryd.underlying88 Tryd.underlying3 (zeroE _) mb o1.length _ rfl Hnum1.out _ _ rfl (keyOf_int_mk Tryd.underlying3 hwf) ?_; intro cq hat hwc; rw [Hsay.out.has_, Hm.out]; clear hat)
          | go_in)
        go_ret
        exact ⟨k, rfl, by rw [Hend.out.1]; exact hnum1, ⟨hgr1.os.trans hb0.os, hgr1.tape.trans hb0.tape, hgr1.output.trans hb0.output, Nat.le_trans hb0.size hgr1.size, fun k hk hne => (hgr1.block k (Nat.lt_of_lt_of_le hk hb0.size) hne).trans (hb0.block k hk)⟩, Hend.out.2.2⟩
      · obtain ⟨m, rfl, hgo'⟩ := Hgo.out.step hc hm
        have hroom := Hgo.out.ok.room hc hm
        have hnx := nextC_at hk
        have Hm := Lib.hid (decide_eq_false hm)
        have Hnx := Lib.hid hnx
        have Hgo' := Lib.hid hgo'
        clear hm hnx hgo' Hgo
        go_wp2_with (first
          | (at_lookup; refine wpList_lookup_own_ok_int _ rfl _ _ 88 rfl 3 3 .i64 lawK Tryd.underlying88 Tryd.underlying3 (zeroE _) mb o1.length _ rfl Hnum1.out _ _ rfl (keyOf_int_mk Tryd.underlying3 hwf) ?_; intro cq hat hwc; rw [Hsay.out.has_, Hm.out]; clear hat)
          | (at_len; refine wpList_len_own _ rfl _ 88 rfl 3 3 Tryd.underlying88 _ mb o1.length _ rfl Hnum1.out ?_; rw [Hsay.out.size_])
          | (at_mapUpdate; refine wpList_mapUpdate_own _ rfl _ _ _ 88 rfl 3 3 lawK Tryd.underlying88 _ mb o1.length _ rfl Hnum1.out (by unfold maxLen; omega) _ _ _ rfl rfl (keyOf_int_mk Tryd.underlying3 hwf) _ [] (plainElem_int Tryd.underlying3 (WalkArith.wf_i64 (by omega))) ?_; intro w2 hown2 hgrow2; obtain ⟨b0, q0, rfl, hbW, hcz⟩ := hr1 k _ (intVals_at zs k hk); have hcz2 := hgrow2.cell hcz (fun e => World.ownsMap.ne_cell Hnum1.out hcz (by injection e)); have d0 := hgrow2.cell c0 (by simpa using hg0); have d1 := hgrow2.cell c1 (by simpa using hg0))
          | go_in)
        go_roundw
        case rel =>
          refine ⟨_, _, m, rfl, (by rw [← Hnx.out]; exact Hgo'.out), ?_, grown_next hgr1 hgrow2⟩
          unfold Numbers
          rw [mapOf_snoc, List.length_append]
          exact hown2
        case measure =>
          have h1 : (mapOf (o1 ++ [(k : Int)]) : DataW H) = _ := mapOf_snoc o1 (k : Int)
          have h2 := World.ownsMap.mapSize_eq hown2
          rw [← h1, (says Hgo'.out.ok.nodup).size_] at h2
          rw [h2, Hsz.out]
          simp
          omega
theorem sameKey_int (a b : Int) : (Lit.int .i64 a).sameKey (.int .i64 b) = decide (a = b) := by
  by_cases h : a = b
  · subst h
    simp [Lit.sameKey]
  · rw [Maps.sameKey_ne (lit_ne h)]
    simp [h]
theorem intInfoH : (Tryd.prog.info? 3).map (fun i => (i.zero, i.size, i.bytes)) = some (some (.int .i64 0), 1, 8) := by kernel_rfl

set_option maxRecDepth 100000 in
set_option maxHeartbeats 1600000 in
theorem implInOrder {H : Type} (mb : Nat) (o : List Int) (w : World) (hlen : o.length ≤ 1048576) (hn : o.Nodup) (hown : Numbers H w mb o) :
    Calls Tryd.prog 85 #[.map (some mb)] w (Built w.heap.size 3 (intVals o) w) := by
  obtain ⟨i0, hi, hz0, hz1, hz2⟩ := info_parts intInfoH
  have hsay := says (H := H) hn
  have hmb : mb < w.heap.size := World.ownsMap.lt hown
  by_cases he : o.length = 0
  · go_enter Tryd.func85, Tryd.ntmps85
    go_wp2_with (first
      | (at_len; refine wpList_len_own _ rfl _ 88 rfl 3 3 Tryd.underlying88 _ mb o.length _ rfl hown ?_; rw [hsay.size_, he])
      | go_in)
    go_ret
    have ho : o = [] := List.eq_nil_of_length_eq_zero he
    subst ho
    exact ⟨none, 0, rfl, Nat.le_refl _, World.ownsRow_nil _ _ _ _, Below.refl _ _⟩
  · have Hsay := Lib.hid hsay
    have Hown := Lib.hid hown
    clear hsay
    go_enter Tryd.func85, Tryd.ntmps85
    go_wp2_with (first
      | (at_len; refine wpList_len_own _ rfl _ 88 rfl 3 3 Tryd.underlying88 _ mb o.length _ rfl Hown.out ?_; rw [Hsay.out.size_])
      | (at_make; refine wpList_make_full _ rfl _ _ 27 rfl w.heap.size 3 i0 (.int .i64 0) 1 Tryd.underlying27 hi hz0 hz1 _ _ _ _ o.length rfl rfl rfl rfl (by rw [hz2]; omega) (by unfold maxLen; omega) (Nat.le_refl _) ?_; intro w0 hown0 hgrow0; have hm0 : Numbers H w0 mb o := World.ownsMap.kept Hown.out hgrow0 (by simp))
      | (at_range; refine wpList_range_own _ rfl _ 88 rfl 3 3 lawK Tryd.underlying88 _ mb o.length _ rfl hm0 ?_; intro w1 hrg1 hg1 hs1)
      | go_in)
    go_frame
    have hr1 : w.heap.size < w0.heap.size := (hown0.lt w.heap.size rfl).2
    have hr0 : w0.heap.size ≠ w.heap.size := by omega
    have ho1 := own_other hown0 hg1 (fun k hk => by simp)
    have hb1 : Below w.heap.size w w1 := ((Below.refl _ _).grown hgrow0 (Nat.le_refl _) (fun k h => by cases h)).grown hg1 hgrow0.size (fun k h => by cases h)
    generalize w0.heap.size = r at *
    clear hown0 hg1 hs1 hm0 hgrow0
    go_loopw [4] (fun _ wr => ∃ (left : Lit → Bool) (cnt : Nat) (ys : List Value), wr.ranges (H := H) Tryd.prog 3 (plainElem Tryd.prog 3) mb r o.length (mapOf o) left cnt ∧ ys.length = o.length ∧
        (∀ k (h : k < o.length), left (.int .i64 o[k]) = false → ys[k]? = some (.int .i64 o[k])) ∧ wr.ownsRow w.heap.size 3 1 (.slice (some ⟨w.heap.size, 0, none⟩) o.length o.length) o.length ys ∧ Below w.heap.size w wr)
      (fun _ wr => wr.rangeLeft mb r)
    case atStart =>
      refine ⟨_, _, _, hrg1, by simpa using ho1.1, fun k h hl => ?_, ho1, hb1⟩
      rw [Hsay.out.has_] at hl
      simp at hl
    case round =>
      obtain ⟨left, cnt, ys, hrg, hyl, hys, hownr, hb⟩ := hrel
      have Hrg := Lib.hid hrg
      have Hyl := Lib.hid hyl
      have Hys := Lib.hid hys
      have Ho := Lib.hid hownr
      have Hb := Lib.hid hb
      clear hrg hyl hys hownr hb
      go_wp2_with (first
        | (at_next; refine wpList_next_ranges_ii _ rfl _ rfl 3 3 .i64 .i64 lawK Tryd.underlying3 Tryd.underlying3 mb r o.length _ _ _ rfl Hrg.out ?_ ?_)
        | go_in)
      · intro hc0 hl0
        go_wp2
        go_ret
        have hfull : ys = intVals o := by
          apply List.ext_getElem?
          intro k
          by_cases hk : k < o.length
          · rw [Hys.out k hk (hl0 _), intVals_at o k hk]
          · rw [List.getElem?_eq_none (by rw [Hyl.out]; omega), List.getElem?_eq_none (by rw [intVals_length]; omega)]
        have ho := Ho.out
        rw [hfull] at ho
        exact built_end (intVals_length _).symm ho Hb.out
      · intro x c w2 cnt2 hwx hwc hlx hat hrg2 hlt hg2 hs2 hen
        have hhas := Maps.has_true_of_atKey hat
        rw [Hsay.out.has_] at hhas
        have hmem : x ∈ o := of_decide_eq_true hhas
        have hcn := hat (.lit (.int .i64 0))
        rw [Hsay.out.at_ x hmem] at hcn
        obtain ⟨k, hk, hxk, hnum⟩ := num_mem hmem
        obtain rfl : c = (k : Int) := by rw [← hnum]; injection hcn with hcn; injection hcn with _ hcn; exact hcn.symm
        have ho2 := own_other Ho.out hg2 (fun j hj e => by have := Option.some.inj hj; have := Option.some.inj e; simp at *; omega)
        have hb2 : Below w.heap.size w w2 := Hb.out.grown hg2 Hb.out.size (fun j hj => by have := Option.some.inj hj; have := Hrg.out.ne; have := Below.size Hb.out; omega)
        obtain ⟨old, hold⟩ : ∃ old, w2.cell? ⟨w.heap.size, k, none⟩ = some old := ⟨_, (ho2.cellAt k (by omega)).trans (List.getElem?_eq_getElem (by rw [Hyl.out]; exact hk))⟩
        have hfr := ho2.frozenAt k
        have hst := ho2.stored k (.int .i64 x)
        clear ho2 hat hhas hcn
        go_wp2
        have hrg3 := hrg2.kept (grown_cell (i := k) (u := .int .i64 x) (grown_self w2 (some w.heap.size))) (fun e => by have := Option.some.inj e; omega) (fun e => hr0 (Option.some.inj e))
        go_roundw
        case rel =>
          refine ⟨_, cnt2, ys.set k (.int .i64 x), hrg3, by rw [List.length_set]; exact Hyl.out, fun j hj hl => ?_, hst.1, hb2.setCell (Nat.le_refl _) _⟩
          by_cases hjk : j = k
          · subst hjk
            rw [List.getElem?_set_self (by rw [Hyl.out]; exact hj), hxk]
          · rw [List.getElem?_set_ne (Ne.symm hjk)]
            refine Hys.out j hj ?_
            rw [sameKey_int, decide_eq_false (fun e => hjk ((List.getElem_inj hn).1 (e.trans hxk.symm)))] at hl
            simpa using hl
        case measure => rw [hrg3.left_eq, Hrg.out.left_eq]; exact hlt

theorem grown_from {a b c : World} {r : Option Nat} (h : Below a.heap.size a b) (k : b.grownBy c r) : a.grownBy c r :=
  ⟨k.os.trans h.os, k.tape.trans h.tape, k.output.trans h.output, Nat.le_trans h.size k.size, fun j hj hd => (k.block j (Nat.lt_of_lt_of_le hj h.size) hd).trans (h.block j hj)⟩
theorem below_grown {B : Nat} {a b c : World} {m : Nat} (h : Below B a b) (hB : B ≤ b.heap.size) (k : b.grownBy c (some m)) (hm : B ≤ m) : Below B a c := h.grown k hB fun j hj => by have := Option.some.inj hj; omega

set_option maxRecDepth 100000 in
set_option maxHeartbeats 1600000 in
theorem implFollowed (a b : Option Addr) (na ca cb : Nat) (zs : List Int) (c : Int) (w : World) (hz : zs.length ≤ 1048576) (hrow : Row w w.heap.size b (intVals zs)) :
    Calls Tryd.prog 94 #[.agg #[.slice a na ca, .slice b zs.length cb], .int .i64 c] w (Built w.heap.size 3 (intVals (followed zs c)) w) := by
  have hmm := @run_makeMap Tryd.prog
  go_enter Tryd.func94, Tryd.ntmps94
  go_wp2_with fail
  obtain ⟨W0, hW0, hb0, hs0, hA0⟩ := one_box2 w (.slice a na ca) (.slice b zs.length cb) 29
  have hs : W0.heap.size = w.heap.size + 1 := by rw [← hW0]; simp
  rw [hW0]
  clear hW0
  have hbm : Below w.heap.size w (W0.alloc (.map #[] 0)) := hb0.alloc hb0.size _
  have hrow1 := (hrow.below hbm).grow hbm.size
  have hown : Numbers Unit (W0.alloc (.map #[] 0)) (w.heap.size + 1) [] := by
    rw [← hs]
    exact World.ownsMap_made _ _ _ _
  have hA1 : Box2 (W0.alloc (.map #[] 0)) w.heap.size (.slice a na ca) (.slice b zs.length cb) := hA0.keep hs0 ((Below.refl _ _).alloc (Nat.le_refl _) _)
  refine (implNumberFrom (H := Unit) a b na ca cb zs c (w.heap.size + 1) [] _ hz hrow1 OrdEnd.nil_ hown).mono ?_
  rintro e w1 ⟨x, rfl, hnum, hgr, hbad⟩
  have hB1 := below_grown hbm hbm.size hgr (by omega)
  obtain ⟨c0, c1⟩ : Box2 w1 w.heap.size (.slice a na ca) (.slice b zs.length cb) := ⟨hgr.cell hA1.1 (by simp), hgr.cell hA1.2 (by simp)⟩
  replace hbad := hbad rfl
  have Hnum := Lib.hid hnum
  clear hnum hgr hown hA1 hA0 hbm hrow1 hmm
  by_cases hx : x = -1
  · have hgood : badEnd zs zs.length c = false := by rw [← hbad]; simp [hx]
    have hf : followed zs c = addAll [] (chain zs zs.length c) := by rw [followed, hgood]; rfl
    have hxb : (x != -1) = false := by simpa using hx
    have Hf := Lib.hid hf
    clear hbad hgood hf hx
    go_wp2_with fail
    refine (implInOrder (H := Unit) (w.heap.size + 1) _ _ (Nat.le_trans (OrdOk.nil_.addAll fun _ hx => chain_cells hx).len hz) (OrdOk.nil_.addAll fun _ hx => chain_cells hx).nodup Hnum.out).mono ?_
    rintro e w2 ⟨ag, cg, rfl, hcg, hg, hb2⟩
    go_wp2
    go_ret
    rw [Hf.out]
    exact ⟨ag, cg, rfl, hcg, own_base hg hB1.size, hB1.trans (hb2.mono hB1.size)⟩
  · have hxb : (x != -1) = true := by simpa using hx
    go_wp2_with fail
    refine (implIsCell a b na ca cb zs x _).mono ?_
    rintro e w2 ⟨rfl, hb2⟩
    have hB2 := hB1.trans (hb2.mono hB1.size)
    have hnum2 := Numbers.below Hnum.out hb2
    cases hc : isC zs x with
    | false =>
      have hgood : badEnd zs zs.length c = true := by rw [← hbad]; simp [hx, hc]
      have hf : followed zs c = [] := by rw [followed, hgood]; rfl
      have Hf := Lib.hid hf
      clear hbad hgood hf hx
      go_wp2
      go_ret
      rw [Hf.out]
      exact ⟨none, 0, rfl, Nat.le_refl _, World.ownsRow_nil _ _ _ _, hB2⟩
    | true =>
      have hgood : badEnd zs zs.length c = false := by rw [← hbad]; simp [hc]
      have hf : followed zs c = addAll [] (chain zs zs.length c) := by rw [followed, hgood]; rfl
      have Hf := Lib.hid hf
      clear hbad hgood hf hx
      go_wp2_with fail
      refine (implInOrder (H := Unit) (w.heap.size + 1) _ _ (Nat.le_trans (OrdOk.nil_.addAll fun _ hx => chain_cells hx).len hz) (OrdOk.nil_.addAll fun _ hx => chain_cells hx).nodup hnum2).mono ?_
      rintro e w3 ⟨ag, cg, rfl, hcg, hg, hb3⟩
      go_wp2
      go_ret
      rw [Hf.out]
      exact ⟨ag, cg, rfl, hcg, own_base hg hB2.size, hB2.trans (hb3.mono hB2.size)⟩

set_option maxRecDepth 100000 in
set_option maxHeartbeats 1600000 in
theorem implNumbersOf (a b : Option Addr) (ca cb : Nat) (vs zs : List Int) (w : World) (hv : vs.length ≤ 1048576) (hz : zs.length ≤ 1048576) (h : HeapAt w a b vs zs) :
    Calls Tryd.prog 83 #[heV a vs.length ca b zs.length cb] w fun e w' => ∃ mb, e = .returned (.map (some mb)) ∧ w.heap.size ≤ mb ∧ Numbers Unit w' mb (order vs zs) ∧ Below w.heap.size w w' := by
  have hmm := @run_makeMap Tryd.prog
  go_enter Tryd.func83, Tryd.ntmps83
  go_wp2_with fail
  obtain ⟨W0, hW0, hb0, hs0, hA0⟩ := one_box2 w (.slice a vs.length ca) (.slice b zs.length cb) 29
  have hs : W0.heap.size = w.heap.size + 1 := by rw [← hW0]; simp
  rw [hW0]
  clear hW0
  have hbm : Below w.heap.size w (W0.alloc (.map #[] 0)) := hb0.alloc hb0.size _
  have hown : Numbers Unit (W0.alloc (.map #[] 0)) (w.heap.size + 1) [] := by
    rw [← hs]
    exact World.ownsMap_made _ _ _ _
  have hA1 : Box2 (W0.alloc (.map #[] 0)) w.heap.size (.slice a vs.length ca) (.slice b zs.length cb) := hA0.keep hs0 ((Below.refl _ _).alloc (Nat.le_refl _) _)
  have hs1 : w.heap.size < (W0.alloc (.map #[] 0)).heap.size := by simp; omega
  clear hA0 hs0 hs hb0
  generalize W0.alloc (.map #[] 0) = W1 at *
  go_loopw [10] (fun i wr => ∃ k : Nat, k ≤ vs.length ∧ i = .int .i64 k ∧ Numbers Unit wr (w.heap.size + 1) (orderFrom zs [] (vs.take k)) ∧ W1.grownBy wr (some (w.heap.size + 1))) (fun i _ => vs.length - (intOf i).toNat)
  case atStart => exact ⟨0, Nat.zero_le _, rfl, hown, grown_self _ _⟩
  case round =>
    obtain ⟨k, hk, rfl, hnum, hgr⟩ := hrel
    have hBr := below_grown hbm hbm.size hgr (by omega)
    obtain ⟨c0, c1⟩ : Box2 wr w.heap.size (.slice a vs.length ca) (.slice b zs.length cb) := ⟨hgr.cell hA1.1 (by simp), hgr.cell hA1.2 (by simp)⟩
    have hat := h.below hBr (Nat.le_refl _)
    have Hnum := Lib.hid hnum
    clear hnum
    by_cases hlt : k < vs.length
    · obtain ⟨bv, ov, rfl, hbv, hcv⟩ := hat.v k _ (intVals_at vs k hlt)
      have htk : orderFrom zs [] (vs.take (k + 1)) = addAll (orderFrom zs [] (vs.take k)) (chain zs zs.length vs[k]) := by rw [take_next vs k hlt, orderFrom_snoc]
      have Htk := Lib.hid htk
      clear htk
      go_wp2_with fail
      refine (implNumberFrom (H := Unit) _ b _ ca cb zs vs[k] (w.heap.size + 1) _ _ hz hat.z (orderFrom_end OrdEnd.nil_) Hnum.out).mono ?_
      rintro e w2 ⟨x, rfl, hnum2, hgr2, _⟩
      have hgr3 := grown_next hgr hgr2
      go_wp2
      go_roundw
      case rel => exact ⟨k + 1, by omega, by go_num, by rw [Htk.out]; exact hnum2, hgr3⟩
      case measure => simp [intOf]; omega
    · have hk' : k = vs.length := by omega
      have Hk := Lib.hid hk'
      clear hk'
      go_wp2
      go_ret
      have hn := Hnum.out
      rw [Hk.out, List.take_length] at hn
      exact ⟨_, rfl, by omega, hn, hBr⟩

theorem implNewNumber {H : Type} (mb : Nat) (o : List Int) (c : Int) (w : World) (hn : o.Nodup) (hm : -1 ∉ o) (hc : c = -1 ∨ c ∈ o) (hb : -9223372036854775808 ≤ c ∧ c ≤ 9223372036854775807) (hown : Numbers H w mb o) :
    Calls Tryd.prog 84 #[.map (some mb), .int .i64 c] w fun e w' => e = .returned (.int .i64 (num o c)) ∧ w = w' := by
  by_cases h1 : c = -1
  · subst h1
    rw [num_not hm]
    go_enter Tryd.func84, Tryd.ntmps84
    go_wp2
    go_ret
    exact ⟨rfl, rfl⟩
  · have hmem := hc.resolve_left h1
    have hsay := says (H := H) hn
    have hd : (c == -1) = false := by simpa using h1
    have hwf : (Lit.int .i64 c).wf = true := WalkArith.wf_i64 (by omega)
    clear h1
    go_enter Tryd.func84, Tryd.ntmps84
    go_wp2_with (first
      | (at_lookup; refine wpList_lookup_own_int _ rfl _ _ 88 rfl 3 3 .i64 lawK Tryd.underlying88 Tryd.underlying3 (zeroE _) mb o.length _ rfl hown _ _ rfl (keyOf_int_mk Tryd.underlying3 hwf) ?_; intro cq hat hwc)
      | go_in)
    go_ret
    rw [hsay.at_ c hmem] at hat
    injection hat with hat
    injection hat with _ hat
    exact ⟨by rw [hat]; rfl, rfl⟩

set_option maxHeartbeats 800000 in
theorem implAreTargets (a b d : Option Addr) (na ca cb cd : Nat) (zs l : List Int) (w : World) (hl : l.length ≤ 1048576) (hrow : Row w w.heap.size d (intVals l)) :
    Calls Tryd.prog 69 #[.agg #[.slice a na ca, .slice b zs.length cb], .slice d l.length cd] w (GaveX (.bool (goodB zs l)) w) := by
  go_enter Tryd.func69, Tryd.ntmps69
  go_wp2_with fail
  obtain ⟨W0, hW0, hb0, hs0, hA0⟩ := one_box2 w (.slice a na ca) (.slice b zs.length cb) 29
  rw [hW0]
  clear hW0
  go_loopw [9] (fun i wr => ∃ k : Nat, k ≤ l.length ∧ i = .int .i64 k ∧ goodB zs (l.take k) = true ∧ Below W0.heap.size W0 wr) (fun i _ => l.length - (intOf i).toNat)
  case atStart => exact ⟨0, Nat.zero_le _, rfl, rfl, Below.refl _ _⟩
  case round =>
    obtain ⟨k, hk, rfl, hall, hb⟩ := hrel
    have hBr := hb0.trans (hb.mono hb0.size)
    obtain ⟨c0, c1⟩ := hA0.keep hs0 hb
    have Hall := Lib.hid hall
    clear hall
    by_cases hlt : k < l.length
    · obtain ⟨bv, ov, rfl, hbv, hcv⟩ := (hrow.below hBr) k _ (intVals_at l k hlt)
      have hyes := goodB_next hlt Hall.out
      have hno := goodB_bad (zs := zs) hlt
      generalize l[k] = x at *
      by_cases hx : x = -1
      · have hxb : (x != -1) = false := by simpa using hx
        have Hy := Lib.hid (hyes (.inl hx))
        clear hyes hno hx
        go_wp2
        go_roundw
        case rel => exact ⟨k + 1, by omega, by go_num, Hy.out, hb⟩
        case measure => simp [intOf]; omega
      · have hxb : (x != -1) = true := by simpa using hx
        go_wp2_with fail
        refine (implIsCell a b na ca cb zs x _).mono ?_
        rintro e w2 ⟨rfl, hb2⟩
        cases hc : isC zs x with
        | false =>
          have Hn := Lib.hid (hno hx hc)
          clear hyes hno hx
          go_wp2
          go_ret
          rw [Hn.out]
          exact ⟨rfl, hBr.trans (hb2.mono hBr.size)⟩
        | true =>
          have Hy := Lib.hid (hyes (.inr hc))
          clear hyes hno hx
          go_wp2
          go_roundw
          case rel => exact ⟨k + 1, by omega, by go_num, Hy.out, hb.trans (hb2.mono hb.size)⟩
          case measure => simp [intOf]; omega
    · have hk' : k = l.length := by omega
      have ht : goodB zs l = true := by have := Hall.out; rwa [hk', List.take_length] at this
      have Ht := Lib.hid ht
      clear ht hk'
      go_wp2
      go_ret
      rw [Ht.out]
      exact ⟨rfl, hBr⟩

set_option maxRecDepth 100000 in
set_option maxHeartbeats 1600000 in
theorem implHasCycle (a b : Option Addr) (ca cb : Nat) (vs zs : List Int) (w : World) (hz : zs.length ≤ 1048576) (h : HeapAt w a b vs zs) (hg : goodB zs zs = true) :
    Calls Tryd.prog 70 #[heV a vs.length ca b zs.length cb] w (GaveX (.bool (!acyc zs)) w) := by
  go_enter Tryd.func70, Tryd.ntmps70
  go_wp2_with fail
  obtain ⟨W0, hW0, hb0, hs0, hA0⟩ := one_box2 w (.slice a vs.length ca) (.slice b zs.length cb) 29
  rw [hW0]
  clear hW0
  obtain ⟨c0, c1⟩ := hA0
  have hA0 : Box2 W0 w.heap.size (.slice a vs.length ca) (.slice b zs.length cb) := ⟨c0, c1⟩
  go_wp2
  clear c0 c1
  go_loopw [8] (fun i wr => ∃ k : Nat, k ≤ zs.length ∧ i = .int .i64 k ∧ (upTo k).all (acycAt zs) = true ∧ Below W0.heap.size W0 wr) (fun i _ => zs.length - (intOf i).toNat)
  case atStart => exact ⟨0, Nat.zero_le _, rfl, rfl, Below.refl _ _⟩
  case round =>
    obtain ⟨k, hk, rfl, hall, hb⟩ := hrel
    have hBr := hb0.trans (hb.mono hb0.size)
    obtain ⟨c0, c1⟩ := hA0.keep hs0 hb
    have hsr : w.heap.size < wr.heap.size := Nat.lt_of_lt_of_le hs0 hb.size
    have Hall := Lib.hid hall
    clear hall
    by_cases hlt : k < zs.length
    · go_wp2_with fail
      refine (implFollowed a b vs.length ca cb zs (k : Int) _ hz (h.below hBr (Nat.le_refl _)).z).mono ?_
      rintro e w2 ⟨ag, cg, rfl, hcg, hg2, hb2⟩
      rw [intVals_length] at *
      obtain ⟨hl, hcell⟩ := followed_here hg hlt
      have hac := acycAt_of hl
      obtain ⟨j, hj, hjz⟩ := isC_nat hcell
      rw [hj, nextC_at hjz] at hac
      obtain ⟨gb, go, rfl, hgb, hgc⟩ := Row.owned hg2 _ _ (intVals_at _ _ hl)
      rw [hj] at hgc
      have hB2 := hb.trans (hb2.mono hb.size)
      obtain ⟨bz, oz, rfl, hbz, hcz⟩ := (h.below (hb0.trans (hB2.mono hb0.size)) (Nat.le_refl _)).z j _ (intVals_at zs j hjz)
      obtain ⟨d0, d1⟩ := hA0.keep hs0 hB2
      have hlen : 1 ≤ (followed zs (k : Int)).length := by omega
      have hlm : (followed zs (k : Int)).length ≤ 1048576 := Nat.le_trans (followed_ok zs (k : Int)).len hz
      clear hg2 hcell hj hl c0 c1
      generalize (followed zs (k : Int)).length = n at *
      have hn1 : ((n : Int) - 1) = ((n - 1 : Nat) : Int) := by omega
      by_cases hx : zs[j] = -1
      · have hxb : (zs[j] != -1) = false := by simpa using hx
        rw [decide_eq_true hx] at hac
        have Hn := Lib.hid (acyc_next Hall.out hac)
        clear hac hx
        go_wp2
        go_quiet (fail)
        go_wp2
        go_roundw
        case rel => exact ⟨k + 1, by omega, by go_num, Hn.out, below_draws hB2 _⟩
        case measure => simp [intOf]; omega
      · have hxb : (zs[j] != -1) = true := by simpa using hx
        rw [decide_eq_false hx] at hac
        have Hn := Lib.hid (acyc_bad hlt hac)
        clear hac hx
        go_wp2
        go_quiet (fail)
        go_wp2
        go_ret
        exact ⟨by rw [Hn.out]; rfl, below_draws (hb0.trans (hB2.mono hb0.size)) _⟩
    · have hk' : k = zs.length := by omega
      have ht : acyc zs = true := by have := Hall.out; rw [hk'] at this; exact this
      have Ht := Lib.hid ht
      clear ht hk'
      go_wp2
      go_ret
      exact ⟨by rw [Ht.out]; rfl, hBr⟩
end Go.Proofs.YtpmmjaceehlpiaaDoor
/-
  A statement over variables: what chapter 4's IsStmt comes to; the walks of the program's function and of the model's.
-/
namespace Go.Proofs.YtpmmjaceehlpiaaDoor
open Go Go.RowKit

def operandB (ss : List ByteArray) (s : ByteArray) (used : Bool) : Bool := if used then decide (0 ≤ place ss s) else s.toList.isEmpty
def stmtB (ss : List ByteArray) (k : Int) (a b : ByteArray) : Bool := goodVars ss && decide (0 ≤ namesN k) && operandB ss a (decide (1 ≤ namesN k)) && operandB ss b (decide (2 ≤ namesN k))

set_option maxHeartbeats 400000 in
theorem implIsOperand (a : Option Addr) (cap : Nat) (ss : List ByteArray) (s : ByteArray) (used : Bool) (w : World) (hlen : ss.length ≤ maxLen) (hrow : Row w w.heap.size a (strVals ss)) :
    Calls Tryd.prog 68 #[.slice a ss.length cap, .string s, .bool used] w (GaveW (.bool (operandB ss s used)) w) := by
  cases used with
  | true =>
    go_enter Tryd.func68, Tryd.ntmps68
    go_wp2_with fail
    refine (implIndexOf _ _ ss s _ hlen hrow).mono ?_
    rintro e w1 ⟨rfl, rfl⟩
    go_wp2
    go_ret
    exact ⟨rfl, rfl⟩
  | false =>
    go_enter Tryd.func68, Tryd.ntmps68
    go_wp2
    go_ret
    exact ⟨rfl, rfl⟩

set_option maxHeartbeats 3200000 in
theorem implIsStmt (a : Option Addr) (cap : Nat) (ss : List ByteArray) (k : Int) (sa sb : ByteArray) (w : World) (hlen : ss.length ≤ maxLen) (hws : ∀ s ∈ ss, s.size ≤ maxLen) (hrow : Row w w.heap.size a (strVals ss)) (hT : HasNamesTable w) :
    Calls Tryd.prog 35 #[.slice a ss.length cap, stV k sa sb] w (GaveB (.bool (stmtB ss k sa sb)) w) := by
  have hT1 : HasNamesTable (w.alloc (.cells #[.int .i64 k, .string sa, .string sb] 26)) := hT.keeps ((Below.refl _ _).alloc (Nat.le_refl _) _)
  have hr1 : Row (w.alloc (.cells #[.int .i64 k, .string sa, .string sb] 26)) (w.heap.size + 1) a (strVals ss) := (hrow.below ((Below.refl _ _).alloc (Nat.le_refl _) _)).grow (by omega)
  rcases namesN_four k with hn | hn | hn | hn
  · skip
    rw [show stmtB ss k sa sb = false from by simp [stmtB, operandB, hn]]
    have HN := Lib.hid hn
    clear hn
    go_enter Tryd.func35, Tryd.ntmps35
    go_wp2_with fail
    refine (implNamesOf k _ hT1).mono ?_
    rw [HN.out]
    rintro e w1 ⟨rfl, rfl⟩
    go_wp2
    go_ret
    exact ⟨rfl, (Below.refl _ _).alloc (Nat.le_refl _) _⟩
  · cases hg : goodVars ss with
    | false =>
      rw [show stmtB ss k sa sb = false from by simp [stmtB, operandB, hg]]
      have HN := Lib.hid hn
      have HG := Lib.hid hg
      clear hn hg
      go_enter Tryd.func35, Tryd.ntmps35
      go_wp2_with fail
      refine (implNamesOf k _ hT1).mono ?_
      rw [HN.out]
      rintro e w1 ⟨rfl, rfl⟩
      go_wp2_with fail
      refine (implAreVars _ _ ss _ hlen hws (by simpa using hr1)).mono ?_
      rw [HG.out]
      rintro e w2 ⟨rfl, hb2⟩
      obtain ⟨hc2, _⟩ := bcell hb2
      have hs2 : w.heap.size < w2.heap.size := by have h := hb2.size; simp at h; omega
      have hr2 : Row w2 w2.heap.size a (strVals ss) := (hr1.below (hb2.mono (by simp))).grow (by omega)
      have hB2 : Below w.heap.size w w2 := ((Below.refl _ _).alloc (Nat.le_refl _) _).trans (hb2.mono (by simp))
      clear hb2
      go_wp2
      go_ret
      exact ⟨rfl, hB2⟩
    | true =>
      cases ha : operandB ss sa false with
      | false =>
        rw [show stmtB ss k sa sb = false from by simp [stmtB, hn, hg, ha]]
        have HN := Lib.hid hn
        have HG := Lib.hid hg
        have HA := Lib.hid ha
        clear hn hg ha
        go_enter Tryd.func35, Tryd.ntmps35
        go_wp2_with fail
        refine (implNamesOf k _ hT1).mono ?_
        rw [HN.out]
        rintro e w1 ⟨rfl, rfl⟩
        go_wp2_with fail
        refine (implAreVars _ _ ss _ hlen hws (by simpa using hr1)).mono ?_
        rw [HG.out]
        rintro e w2 ⟨rfl, hb2⟩
        obtain ⟨hc2, _⟩ := bcell hb2
        have hs2 : w.heap.size < w2.heap.size := by have h := hb2.size; simp at h; omega
        have hr2 : Row w2 w2.heap.size a (strVals ss) := (hr1.below (hb2.mono (by simp))).grow (by omega)
        have hB2 : Below w.heap.size w w2 := ((Below.refl _ _).alloc (Nat.le_refl _) _).trans (hb2.mono (by simp))
        clear hb2
        go_wp2_with fail
        refine (implIsOperand _ _ ss sa false _ hlen hr2).mono ?_
        rw [HA.out]
        rintro e w3 ⟨rfl, rfl⟩
        go_wp2
        go_ret
        exact ⟨rfl, hB2⟩
      | true =>
        rw [show stmtB ss k sa sb = operandB ss sb false from by simp [stmtB, hn, hg, ha]]
        have HN := Lib.hid hn
        have HG := Lib.hid hg
        have HA := Lib.hid ha
        clear hn hg ha
        go_enter Tryd.func35, Tryd.ntmps35
        go_wp2_with fail
        refine (implNamesOf k _ hT1).mono ?_
        rw [HN.out]
        rintro e w1 ⟨rfl, rfl⟩
        go_wp2_with fail
        refine (implAreVars _ _ ss _ hlen hws (by simpa using hr1)).mono ?_
        rw [HG.out]
        rintro e w2 ⟨rfl, hb2⟩
        obtain ⟨hc2, _⟩ := bcell hb2
        have hs2 : w.heap.size < w2.heap.size := by have h := hb2.size; simp at h; omega
        have hr2 : Row w2 w2.heap.size a (strVals ss) := (hr1.below (hb2.mono (by simp))).grow (by omega)
        have hB2 : Below w.heap.size w w2 := ((Below.refl _ _).alloc (Nat.le_refl _) _).trans (hb2.mono (by simp))
        clear hb2
        go_wp2_with fail
        refine (implIsOperand _ _ ss sa false _ hlen hr2).mono ?_
        rw [HA.out]
        rintro e w3 ⟨rfl, rfl⟩
        go_wp2_with fail
        refine (implIsOperand _ _ ss sb false _ hlen hr2).mono ?_
        rintro e w3 ⟨rfl, rfl⟩
        go_wp2
        go_ret
        exact ⟨rfl, hB2⟩
  · cases hg : goodVars ss with
    | false =>
      rw [show stmtB ss k sa sb = false from by simp [stmtB, operandB, hg]]
      have HN := Lib.hid hn
      have HG := Lib.hid hg
      clear hn hg
      go_enter Tryd.func35, Tryd.ntmps35
      go_wp2_with fail
      refine (implNamesOf k _ hT1).mono ?_
      rw [HN.out]
      rintro e w1 ⟨rfl, rfl⟩
      go_wp2_with fail
      refine (implAreVars _ _ ss _ hlen hws (by simpa using hr1)).mono ?_
      rw [HG.out]
      rintro e w2 ⟨rfl, hb2⟩
      obtain ⟨hc2, _⟩ := bcell hb2
      have hs2 : w.heap.size < w2.heap.size := by have h := hb2.size; simp at h; omega
      have hr2 : Row w2 w2.heap.size a (strVals ss) := (hr1.below (hb2.mono (by simp))).grow (by omega)
      have hB2 : Below w.heap.size w w2 := ((Below.refl _ _).alloc (Nat.le_refl _) _).trans (hb2.mono (by simp))
      clear hb2
      go_wp2
      go_ret
      exact ⟨rfl, hB2⟩
    | true =>
      cases ha : operandB ss sa true with
      | false =>
        rw [show stmtB ss k sa sb = false from by simp [stmtB, hn, hg, ha]]
        have HN := Lib.hid hn
        have HG := Lib.hid hg
        have HA := Lib.hid ha
        clear hn hg ha
        go_enter Tryd.func35, Tryd.ntmps35
        go_wp2_with fail
        refine (implNamesOf k _ hT1).mono ?_
        rw [HN.out]
        rintro e w1 ⟨rfl, rfl⟩
        go_wp2_with fail
        refine (implAreVars _ _ ss _ hlen hws (by simpa using hr1)).mono ?_
        rw [HG.out]
        rintro e w2 ⟨rfl, hb2⟩
        obtain ⟨hc2, _⟩ := bcell hb2
        have hs2 : w.heap.size < w2.heap.size := by have h := hb2.size; simp at h; omega
        have hr2 : Row w2 w2.heap.size a (strVals ss) := (hr1.below (hb2.mono (by simp))).grow (by omega)
        have hB2 : Below w.heap.size w w2 := ((Below.refl _ _).alloc (Nat.le_refl _) _).trans (hb2.mono (by simp))
        clear hb2
        go_wp2_with fail
        refine (implIsOperand _ _ ss sa true _ hlen hr2).mono ?_
        rw [HA.out]
        rintro e w3 ⟨rfl, rfl⟩
        go_wp2
        go_ret
        exact ⟨rfl, hB2⟩
      | true =>
        rw [show stmtB ss k sa sb = operandB ss sb false from by simp [stmtB, hn, hg, ha]]
        have HN := Lib.hid hn
        have HG := Lib.hid hg
        have HA := Lib.hid ha
        clear hn hg ha
        go_enter Tryd.func35, Tryd.ntmps35
        go_wp2_with fail
        refine (implNamesOf k _ hT1).mono ?_
        rw [HN.out]
        rintro e w1 ⟨rfl, rfl⟩
        go_wp2_with fail
        refine (implAreVars _ _ ss _ hlen hws (by simpa using hr1)).mono ?_
        rw [HG.out]
        rintro e w2 ⟨rfl, hb2⟩
        obtain ⟨hc2, _⟩ := bcell hb2
        have hs2 : w.heap.size < w2.heap.size := by have h := hb2.size; simp at h; omega
        have hr2 : Row w2 w2.heap.size a (strVals ss) := (hr1.below (hb2.mono (by simp))).grow (by omega)
        have hB2 : Below w.heap.size w w2 := ((Below.refl _ _).alloc (Nat.le_refl _) _).trans (hb2.mono (by simp))
        clear hb2
        go_wp2_with fail
        refine (implIsOperand _ _ ss sa true _ hlen hr2).mono ?_
        rw [HA.out]
        rintro e w3 ⟨rfl, rfl⟩
        go_wp2_with fail
        refine (implIsOperand _ _ ss sb false _ hlen hr2).mono ?_
        rintro e w3 ⟨rfl, rfl⟩
        go_wp2
        go_ret
        exact ⟨rfl, hB2⟩
  · cases hg : goodVars ss with
    | false =>
      rw [show stmtB ss k sa sb = false from by simp [stmtB, operandB, hg]]
      have HN := Lib.hid hn
      have HG := Lib.hid hg
      clear hn hg
      go_enter Tryd.func35, Tryd.ntmps35
      go_wp2_with fail
      refine (implNamesOf k _ hT1).mono ?_
      rw [HN.out]
      rintro e w1 ⟨rfl, rfl⟩
      go_wp2_with fail
      refine (implAreVars _ _ ss _ hlen hws (by simpa using hr1)).mono ?_
      rw [HG.out]
      rintro e w2 ⟨rfl, hb2⟩
      obtain ⟨hc2, _⟩ := bcell hb2
      have hs2 : w.heap.size < w2.heap.size := by have h := hb2.size; simp at h; omega
      have hr2 : Row w2 w2.heap.size a (strVals ss) := (hr1.below (hb2.mono (by simp))).grow (by omega)
      have hB2 : Below w.heap.size w w2 := ((Below.refl _ _).alloc (Nat.le_refl _) _).trans (hb2.mono (by simp))
      clear hb2
      go_wp2
      go_ret
      exact ⟨rfl, hB2⟩
    | true =>
      cases ha : operandB ss sa true with
      | false =>
        rw [show stmtB ss k sa sb = false from by simp [stmtB, hn, hg, ha]]
        have HN := Lib.hid hn
        have HG := Lib.hid hg
        have HA := Lib.hid ha
        clear hn hg ha
        go_enter Tryd.func35, Tryd.ntmps35
        go_wp2_with fail
        refine (implNamesOf k _ hT1).mono ?_
        rw [HN.out]
        rintro e w1 ⟨rfl, rfl⟩
        go_wp2_with fail
        refine (implAreVars _ _ ss _ hlen hws (by simpa using hr1)).mono ?_
        rw [HG.out]
        rintro e w2 ⟨rfl, hb2⟩
        obtain ⟨hc2, _⟩ := bcell hb2
        have hs2 : w.heap.size < w2.heap.size := by have h := hb2.size; simp at h; omega
        have hr2 : Row w2 w2.heap.size a (strVals ss) := (hr1.below (hb2.mono (by simp))).grow (by omega)
        have hB2 : Below w.heap.size w w2 := ((Below.refl _ _).alloc (Nat.le_refl _) _).trans (hb2.mono (by simp))
        clear hb2
        go_wp2_with fail
        refine (implIsOperand _ _ ss sa true _ hlen hr2).mono ?_
        rw [HA.out]
        rintro e w3 ⟨rfl, rfl⟩
        go_wp2
        go_ret
        exact ⟨rfl, hB2⟩
      | true =>
        rw [show stmtB ss k sa sb = operandB ss sb true from by simp [stmtB, hn, hg, ha]]
        have HN := Lib.hid hn
        have HG := Lib.hid hg
        have HA := Lib.hid ha
        clear hn hg ha
        go_enter Tryd.func35, Tryd.ntmps35
        go_wp2_with fail
        refine (implNamesOf k _ hT1).mono ?_
        rw [HN.out]
        rintro e w1 ⟨rfl, rfl⟩
        go_wp2_with fail
        refine (implAreVars _ _ ss _ hlen hws (by simpa using hr1)).mono ?_
        rw [HG.out]
        rintro e w2 ⟨rfl, hb2⟩
        obtain ⟨hc2, _⟩ := bcell hb2
        have hs2 : w.heap.size < w2.heap.size := by have h := hb2.size; simp at h; omega
        have hr2 : Row w2 w2.heap.size a (strVals ss) := (hr1.below (hb2.mono (by simp))).grow (by omega)
        have hB2 : Below w.heap.size w w2 := ((Below.refl _ _).alloc (Nat.le_refl _) _).trans (hb2.mono (by simp))
        clear hb2
        go_wp2_with fail
        refine (implIsOperand _ _ ss sa true _ hlen hr2).mono ?_
        rw [HA.out]
        rintro e w3 ⟨rfl, rfl⟩
        go_wp2_with fail
        refine (implIsOperand _ _ ss sb true _ hlen hr2).mono ?_
        rintro e w3 ⟨rfl, rfl⟩
        go_wp2
        go_ret
        exact ⟨rfl, hB2⟩

set_option maxHeartbeats 3200000 in
theorem specIsStmt (a : Option Addr) (cap : Nat) (ss : List ByteArray) (k : Int) (sa sb : ByteArray) (w : World) (hlen : ss.length ≤ maxLen) (hws : ∀ s ∈ ss, s.size ≤ maxLen) (hrow : Row w w.heap.size a (strVals ss)) :
    Calls Tryd.prog 42 #[.slice a ss.length cap, stV k sa sb] w (GaveB (.bool (stmtB ss k sa sb)) w) := by
  have hr1 : Row (w.alloc (.cells #[.int .i64 k, .string sa, .string sb] 26)) (w.heap.size + 1) a (strVals ss) := (hrow.below ((Below.refl _ _).alloc (Nat.le_refl _) _)).grow (by omega)
  have hB1 : Below w.heap.size w (w.alloc (.cells #[.int .i64 k, .string sa, .string sb] 26)) := (Below.refl _ _).alloc (Nat.le_refl _) _
  rcases namesN_four k with hn | hn | hn | hn
  · cases hg : goodVars ss with
    | false =>
      rw [show stmtB ss k sa sb = false from by simp [stmtB, operandB, hg]]
      have HN := Lib.hid hn
      have HG := Lib.hid hg
      clear hn hg
      go_enter Tryd.func42, Tryd.ntmps42
      go_wp2_with fail
      refine (specNamesOf k _).mono ?_
      rw [HN.out]
      rintro e w1 ⟨rfl, rfl⟩
      go_wp2_with fail
      refine (specAreVars _ _ ss _ hlen hws (by simpa using hr1)).mono ?_
      rw [HG.out]
      rintro e w2 ⟨rfl, rfl⟩
      go_wp2
      go_ret
      exact ⟨rfl, hB1⟩
    | true =>
      rw [show stmtB ss k sa sb = false from by simp [stmtB, operandB, hn]]
      have HN := Lib.hid hn
      have HG := Lib.hid hg
      clear hn hg
      go_enter Tryd.func42, Tryd.ntmps42
      go_wp2_with fail
      refine (specNamesOf k _).mono ?_
      rw [HN.out]
      rintro e w1 ⟨rfl, rfl⟩
      go_wp2_with fail
      refine (specAreVars _ _ ss _ hlen hws (by simpa using hr1)).mono ?_
      rw [HG.out]
      rintro e w2 ⟨rfl, rfl⟩
      go_wp2
      go_ret
      exact ⟨rfl, hB1⟩
  · cases hg : goodVars ss with
    | false =>
      rw [show stmtB ss k sa sb = false from by simp [stmtB, operandB, hg]]
      have HN := Lib.hid hn
      have HG := Lib.hid hg
      clear hn hg
      go_enter Tryd.func42, Tryd.ntmps42
      go_wp2_with fail
      refine (specNamesOf k _).mono ?_
      rw [HN.out]
      rintro e w1 ⟨rfl, rfl⟩
      go_wp2_with fail
      refine (specAreVars _ _ ss _ hlen hws (by simpa using hr1)).mono ?_
      rw [HG.out]
      rintro e w2 ⟨rfl, rfl⟩
      go_wp2
      go_ret
      exact ⟨rfl, hB1⟩
    | true =>
      cases ha : sa.toList.isEmpty with
      | false =>
        rw [show stmtB ss k sa sb = false from by simp [stmtB, operandB, hn, hg, ha]]
        have HN := Lib.hid hn
        have HG := Lib.hid hg
        clear hn hg
        go_enter Tryd.func42, Tryd.ntmps42
        go_wp2_with fail
        refine (specNamesOf k _).mono ?_
        rw [HN.out]
        rintro e w1 ⟨rfl, rfl⟩
        go_wp2_with fail
        refine (specAreVars _ _ ss _ hlen hws (by simpa using hr1)).mono ?_
        rw [HG.out]
        rintro e w2 ⟨rfl, rfl⟩
        go_wp2
        go_ret
        exact ⟨rfl, hB1⟩
      | true =>
        cases hb : sb.toList.isEmpty with
        | false =>
          rw [show stmtB ss k sa sb = false from by simp [stmtB, operandB, hn, hg, ha, hb]]
          have HN := Lib.hid hn
          have HG := Lib.hid hg
          clear hn hg
          go_enter Tryd.func42, Tryd.ntmps42
          go_wp2_with fail
          refine (specNamesOf k _).mono ?_
          rw [HN.out]
          rintro e w1 ⟨rfl, rfl⟩
          go_wp2_with fail
          refine (specAreVars _ _ ss _ hlen hws (by simpa using hr1)).mono ?_
          rw [HG.out]
          rintro e w2 ⟨rfl, rfl⟩
          go_wp2
          go_ret
          exact ⟨rfl, hB1⟩
        | true =>
          rw [show stmtB ss k sa sb = true from by simp [stmtB, operandB, hn, hg, ha, hb]]
          have HN := Lib.hid hn
          have HG := Lib.hid hg
          clear hn hg
          go_enter Tryd.func42, Tryd.ntmps42
          go_wp2_with fail
          refine (specNamesOf k _).mono ?_
          rw [HN.out]
          rintro e w1 ⟨rfl, rfl⟩
          go_wp2_with fail
          refine (specAreVars _ _ ss _ hlen hws (by simpa using hr1)).mono ?_
          rw [HG.out]
          rintro e w2 ⟨rfl, rfl⟩
          go_wp2
          go_ret
          exact ⟨rfl, hB1⟩
  · cases hg : goodVars ss with
    | false =>
      rw [show stmtB ss k sa sb = false from by simp [stmtB, operandB, hg]]
      have HN := Lib.hid hn
      have HG := Lib.hid hg
      clear hn hg
      go_enter Tryd.func42, Tryd.ntmps42
      go_wp2_with fail
      refine (specNamesOf k _).mono ?_
      rw [HN.out]
      rintro e w1 ⟨rfl, rfl⟩
      go_wp2_with fail
      refine (specAreVars _ _ ss _ hlen hws (by simpa using hr1)).mono ?_
      rw [HG.out]
      rintro e w2 ⟨rfl, rfl⟩
      go_wp2
      go_ret
      exact ⟨rfl, hB1⟩
    | true =>
      cases hb : sb.toList.isEmpty with
      | false =>
        rw [show stmtB ss k sa sb = false from by simp [stmtB, operandB, hn, hg, hb]]
        have HN := Lib.hid hn
        have HG := Lib.hid hg
        clear hn hg
        go_enter Tryd.func42, Tryd.ntmps42
        go_wp2_with fail
        refine (specNamesOf k _).mono ?_
        rw [HN.out]
        rintro e w1 ⟨rfl, rfl⟩
        go_wp2_with fail
        refine (specAreVars _ _ ss _ hlen hws (by simpa using hr1)).mono ?_
        rw [HG.out]
        rintro e w2 ⟨rfl, rfl⟩
        go_wp2
        go_ret
        exact ⟨rfl, hB1⟩
      | true =>
        cases hp : decide (0 ≤ place ss sa) with
        | false =>
          rw [show stmtB ss k sa sb = false from by simp [stmtB, operandB, hn, hg, hb, hp]]
          have HN := Lib.hid hn
          have HG := Lib.hid hg
          clear hn hg
          go_enter Tryd.func42, Tryd.ntmps42
          go_wp2_with fail
          refine (specNamesOf k _).mono ?_
          rw [HN.out]
          rintro e w1 ⟨rfl, rfl⟩
          go_wp2_with fail
          refine (specAreVars _ _ ss _ hlen hws (by simpa using hr1)).mono ?_
          rw [HG.out]
          rintro e w2 ⟨rfl, rfl⟩
          go_wp2_with fail
          refine (specIndexOf _ _ ss sa _ hlen (by simpa using hr1)).mono ?_
          rintro e w2 ⟨rfl, rfl⟩
          go_wp2
          go_ret
          exact ⟨rfl, hB1⟩
        | true =>
          rw [show stmtB ss k sa sb = true from by simp [stmtB, operandB, hn, hg, hb, hp]]
          have HN := Lib.hid hn
          have HG := Lib.hid hg
          clear hn hg
          go_enter Tryd.func42, Tryd.ntmps42
          go_wp2_with fail
          refine (specNamesOf k _).mono ?_
          rw [HN.out]
          rintro e w1 ⟨rfl, rfl⟩
          go_wp2_with fail
          refine (specAreVars _ _ ss _ hlen hws (by simpa using hr1)).mono ?_
          rw [HG.out]
          rintro e w2 ⟨rfl, rfl⟩
          go_wp2_with fail
          refine (specIndexOf _ _ ss sa _ hlen (by simpa using hr1)).mono ?_
          rintro e w2 ⟨rfl, rfl⟩
          go_wp2
          go_ret
          exact ⟨rfl, hB1⟩
  · cases hg : goodVars ss with
    | false =>
      rw [show stmtB ss k sa sb = false from by simp [stmtB, operandB, hg]]
      have HN := Lib.hid hn
      have HG := Lib.hid hg
      clear hn hg
      go_enter Tryd.func42, Tryd.ntmps42
      go_wp2_with fail
      refine (specNamesOf k _).mono ?_
      rw [HN.out]
      rintro e w1 ⟨rfl, rfl⟩
      go_wp2_with fail
      refine (specAreVars _ _ ss _ hlen hws (by simpa using hr1)).mono ?_
      rw [HG.out]
      rintro e w2 ⟨rfl, rfl⟩
      go_wp2
      go_ret
      exact ⟨rfl, hB1⟩
    | true =>
      cases hp : decide (0 ≤ place ss sa) with
      | false =>
        rw [show stmtB ss k sa sb = false from by simp [stmtB, operandB, hn, hg, hp]]
        have HN := Lib.hid hn
        have HG := Lib.hid hg
        clear hn hg
        go_enter Tryd.func42, Tryd.ntmps42
        go_wp2_with fail
        refine (specNamesOf k _).mono ?_
        rw [HN.out]
        rintro e w1 ⟨rfl, rfl⟩
        go_wp2_with fail
        refine (specAreVars _ _ ss _ hlen hws (by simpa using hr1)).mono ?_
        rw [HG.out]
        rintro e w2 ⟨rfl, rfl⟩
        go_wp2_with fail
        refine (specIndexOf _ _ ss sa _ hlen (by simpa using hr1)).mono ?_
        rintro e w2 ⟨rfl, rfl⟩
        go_wp2
        go_ret
        exact ⟨rfl, hB1⟩
      | true =>
        rw [show stmtB ss k sa sb = decide (0 ≤ place ss sb) from by simp [stmtB, operandB, hn, hg, hp]]
        have HN := Lib.hid hn
        have HG := Lib.hid hg
        clear hn hg
        go_enter Tryd.func42, Tryd.ntmps42
        go_wp2_with fail
        refine (specNamesOf k _).mono ?_
        rw [HN.out]
        rintro e w1 ⟨rfl, rfl⟩
        go_wp2_with fail
        refine (specAreVars _ _ ss _ hlen hws (by simpa using hr1)).mono ?_
        rw [HG.out]
        rintro e w2 ⟨rfl, rfl⟩
        go_wp2_with fail
        refine (specIndexOf _ _ ss sa _ hlen (by simpa using hr1)).mono ?_
        rintro e w2 ⟨rfl, rfl⟩
        go_wp2_with fail
        refine (specIndexOf _ _ ss sb _ hlen (by simpa using hr1)).mono ?_
        rintro e w2 ⟨rfl, rfl⟩
        go_wp2
        go_ret
        exact ⟨rfl, hB1⟩
end Go.Proofs.YtpmmjaceehlpiaaDoor
/-
  The model's walks over a heap: following, the order of the cells, no way round, leak.
-/
namespace Go.Proofs.YtpmmjaceehlpiaaDoor
open Go Go.RowKit Go.Sort

theorem posFrom_pos (n : Int) (zs : List Int) : decide (0 < (posFrom n 0 zs).length) = decide (n ∈ zs) := by
  congr 1
  simp only [eq_iff_iff]
  constructor
  · intro h
    refine Classical.byContradiction fun hno => ?_
    rw [posFrom_none hno] at h
    simp at h
  · intro h
    obtain ⟨j, r, e, _⟩ := posFrom_some (k := 0) h
    rw [e]
    simp

set_option maxHeartbeats 800000 in
theorem specHas (a : Option Addr) (cap : Nat) (ns : List Int) (n : Int) (w : World) (hlen : ns.length ≤ 1048576) (hrow : Row w w.heap.size a (intVals ns)) :
    Calls Tryd.prog 87 #[.slice a ns.length cap, .int .i64 n] w (GaveX (.bool (decide (n ∈ ns))) w) := by
  have hp := posFrom_pos n ns
  have hpl := posFrom_length n ns 0
  have Hp := Lib.hid hp
  clear hp
  go_enter Tryd.func87, Tryd.ntmps87
  go_wp2_with fail
  refine (specPositions a cap ns n _ hlen hrow).mono ?_
  rintro e w1 ⟨ag, cg, rfl, hcg, hg, hb1⟩
  rw [intVals_length] at *
  go_wp2
  go_ret
  exact ⟨by rw [← Hp.out]; rfl, hb1⟩

theorem own_shape' {w : World} {base e size n : Nat} {v : Value} {xs : List Value} (h : w.ownsRow base e size v n xs) : ∃ a c, v = .slice a n c ∧ n ≤ c := by
  rcases h.2 with ⟨rfl, rfl⟩ | ⟨g, cap, cur, rfl, _, _, hc, _⟩
  · exact ⟨_, _, rfl, Nat.le_refl _⟩
  · exact ⟨_, _, rfl, hc⟩
def sliceLen : Value → Nat
  | .slice _ n _ => n
  | _ => 0
theorem in_isC (zs : List Int) (c : Int) : (decide (0 ≤ c) && decide (c ≤ (zs.length : Int) - 1)) = isC zs c := by
  by_cases h0 : 0 ≤ c <;> by_cases h1 : c < (zs.length : Int)
  all_goals simp [isC, h0, h1]
  all_goals omega

set_option maxRecDepth 100000 in
set_option maxHeartbeats 1600000 in
theorem specFollowed (a b : Option Addr) (na ca cb : Nat) (zs : List Int) (c : Int) (w : World) (hz : zs.length ≤ 1048576) (hrow : Row w w.heap.size b (intVals zs)) :
    Calls Tryd.prog 88 #[.agg #[.slice a na ca, .slice b zs.length cb], .int .i64 c] w (Built w.heap.size 3 (intVals (followed zs c)) w) := by
  obtain ⟨i0, hi, hz0, hz1, hz2⟩ := info_parts numInfo
  go_enter Tryd.func88, Tryd.ntmps88
  go_wp2
  obtain ⟨W0, hW0, hb0, hs0, hA0⟩ := one_box2 w (.slice a na ca) (.slice b zs.length cb) 29
  rw [hW0]
  go_loopw [1, 5] (fun v l wr => ∃ (cc : Int) (o : List Int) (n : Nat), v = .int .i64 cc ∧ Going zs [] c o cc n ∧ wr.ownsRow W0.heap.size 3 1 l o.length (intVals o) ∧ Below W0.heap.size W0 wr) (fun _ l _ => zs.length - sliceLen l)
  case atStart => exact ⟨c, [], zs.length, rfl, Going.start OrdOk.nil_ OrdEnd.nil_.closed, (by simpa [← hW0, intVals] using World.ownsRow_made (e := 3) (size := 1) W0 #[] 0 (Nat.le_refl _) (Nat.zero_le _) rfl), (Below.refl _ _).alloc (Nat.le_refl _) _⟩
  case round =>
    obtain ⟨cc, o, n, rfl, hgo, hown, hb⟩ := hrel
    obtain ⟨la, lc, rfl, hlc⟩ := own_shape' hown
    have hBr := hb0.trans (hb.mono hb0.size)
    obtain ⟨c0, c1⟩ := hA0.keep hs0 hb
    have hlen := hgo.ok.len
    have hnd := hgo.ok.nodup
    have Hgo := Lib.hid hgo
    have Hown := Lib.hid hown
    clear hgo hown
    by_cases h1 : cc = -1
    · have hst := Hgo.out.stop (.inl (by rw [h1]; exact isC_minus _))
      have hbe : badEnd zs zs.length c = false := by rw [← hst.2.2 rfl]; simp [h1]
      have hf := Lib.hid (show followed zs c = o by rw [followed, hbe]; exact hst.1)
      have h1b : (cc != -1) = false := by simpa using h1
      clear hst hbe h1
      go_wp2
      go_ret
      rw [hf.out]
      exact built_end (intVals_length _).symm (own_base Hown.out hb0.size) hBr
    · have h1b : (cc != -1) = true := by simpa using h1
      have hro := Row.owned Hown.out
      go_wp2_with fail
      refine (specHas la lc o cc _ (by omega) hro).mono ?_
      rintro e w1 ⟨rfl, hb1⟩
      have hB1 := hb.trans (hb1.mono hb.size)
      have hown1 := own_keeps Hown.out hb1
      clear c0 c1
      obtain ⟨c0, c1⟩ := hA0.keep hs0 hB1
      by_cases hm : cc ∈ o
      · have hst := Hgo.out.stop (.inr hm)
        have hbe : badEnd zs zs.length c = false := by rw [← hst.2.2 rfl, Hgo.out.ok.cells cc hm]; simp
        have hf := Lib.hid (show followed zs c = o by rw [followed, hbe]; exact hst.1)
        have hmd := decide_eq_true hm
        clear hst hbe h1
        go_wp2
        go_ret
        rw [hf.out]
        exact built_end (intVals_length _).symm (own_base hown1 hb0.size) (hb0.trans (hB1.mono hb0.size))
      · have hmd := decide_eq_false hm
        have hlz : ((zs.length : Int) - 1) ≤ 1048575 := by omega
        have Hown1 := Lib.hid hown1
        clear hown1
        go_wp2_with fail
        refine (specIn cc 0 ((zs.length : Int) - 1) _).mono ?_
        rintro e w2 ⟨rfl, rfl⟩
        rw [in_isC]
        cases hc : isC zs cc with
        | false =>
          have hst := Hgo.out.stop (.inl hc)
          have hbe : badEnd zs zs.length c = true := by rw [← hst.2.2 rfl]; simp [h1, hc]
          have hf := Lib.hid (show followed zs c = [] by rw [followed, hbe]; rfl)
          clear hst hbe h1 hm
          go_wp2
          go_ret
          rw [hf.out]
          refine built_end (n := 0) rfl (World.ownsRow_made w1 #[] 0 ?_ (Nat.zero_le _) rfl) (((hb0.trans (hB1.mono hb0.size))).alloc ?_ _)
          · exact Nat.le_trans hb0.size hB1.size
          · exact Nat.le_trans hb0.size hB1.size
        | true =>
          obtain ⟨m, rfl, hgo'⟩ := Hgo.out.step hc hm
          have hroom := Hgo.out.ok.room hc hm
          obtain ⟨k, rfl, hk⟩ := isC_nat hc
          have hnx := nextC_at hk
          obtain ⟨bz, oz, rfl, hbz, hcz⟩ := hrow k _ (intVals_at zs k hk)
          have Hnx := Lib.hid hnx
          have Hgo' := Lib.hid hgo'
          clear hnx hgo' Hgo h1 hm
          go_wp2_with (first
            | (at_builtin; refine wpList_append_own _ rfl (.tmp 23) (.tmp 25) 27 rfl W0.heap.size 3 i0 (.int .i64 0) 1 8 Tryd.underlying27 hi hz0 hz1 hz2 rfl (by decide) _ o.length _ rfl (Hown1.out.alloc _) ⟨w1.heap.size, 0, none⟩ 1 1 [.int .i64 (k : Int)] rfl rfl (oneCell_at _) (oneCell_int _) (by unfold maxLen; omega) (by omega) (by have := hB1.size; simp; omega) ?_; intro v2 w2 hown2 hg2 _; have hb2 := own_below (Hown1.out.alloc _) hg2 (by have := hB1.size; simp; omega) (hB1.alloc hB1.size _); clear hg2; obtain ⟨d0, d1⟩ := hA0.keep hs0 hb2; have hcz2 := ((hb0.trans (hb2.mono hb0.size)).cell (p := ⟨bz, oz + k, none⟩) hbz).trans hcz)
            | fail)
          obtain ⟨va, vc, rfl, hvc⟩ := own_shape' hown2
          go_roundw
          case rel => exact ⟨_, _, m, rfl, (by rw [← Hnx.out]; exact Hgo'.out), (by rw [intVals_snoc, List.length_append, List.length_singleton]; exact hown2), hb2⟩
          case measure => simp [sliceLen]; omega

theorem take_step {α : Type} (l : List α) (k : Nat) (h : k < l.length) : l.take (k + 1) = l.take k ++ [l[k]] := take_next l k h
theorem addAll_one (o : List Int) (x : Int) : addAll o [x] = if x ∈ o then o else o ++ [x] := rfl

set_option maxRecDepth 100000 in
set_option maxHeartbeats 3200000 in
theorem specOrder (a b : Option Addr) (ca cb : Nat) (vs zs : List Int) (w : World) (hv : vs.length ≤ 1048576) (hz : zs.length ≤ 1048576) (h : HeapAt w a b vs zs) :
    Calls Tryd.prog 57 #[heV a vs.length ca b zs.length cb] w (Built w.heap.size 3 (intVals (orderS zs [] vs)) w) := by
  obtain ⟨i0, hi, hz0, hz1, hz2⟩ := info_parts numInfo
  have hat : ∀ W, Below w.heap.size w W → HeapAt W a b vs zs := fun W hb => h.below hb (Nat.le_refl _)
  have HAT := Lib.hid hat
  clear hat h
  go_enter Tryd.func57, Tryd.ntmps57
  go_wp2
  obtain ⟨W0, hW0, hb0, hs0, hA0⟩ := one_box2 w (.slice a vs.length ca) (.slice b zs.length cb) 29
  rw [hW0]
  go_loopw [3, 4] (fun l i wr => ∃ k : Nat, k ≤ vs.length ∧ i = .int .i64 k ∧ wr.ownsRow W0.heap.size 3 1 l (orderS zs [] (vs.take k)).length (intVals (orderS zs [] (vs.take k))) ∧ Below W0.heap.size W0 wr) (fun _ i _ => vs.length - (intOf i).toNat)
  case atStart => exact ⟨0, Nat.zero_le _, rfl, (by simpa [← hW0, intVals, orderS] using World.ownsRow_made (e := 3) (size := 1) W0 #[] 0 (Nat.le_refl _) (Nat.zero_le _) rfl), (Below.refl _ _).alloc (Nat.le_refl _) _⟩
  case round =>
    clear hW0
    obtain ⟨k, hk, rfl, hown, hb⟩ := hrel
    obtain ⟨la, lc, rfl, hlc⟩ := own_shape' hown
    have hBr := hb0.trans (hb.mono hb0.size)
    obtain ⟨c0, c1⟩ := hA0.keep hs0 hb
    have hsr : w.heap.size < wr.heap.size := Nat.lt_of_lt_of_le hs0 hb.size
    have Hown := Lib.hid hown
    clear hown
    by_cases hlt : k < vs.length
    · have htk : orderS zs [] (vs.take (k + 1)) = addAll (orderS zs [] (vs.take k)) (followed zs vs[k]) := by rw [take_step vs k hlt, orderS_snoc]
      have hrow := (HAT.out _ hBr).v
      obtain ⟨bv, ov, rfl, hbv, hcv⟩ := hrow k _ (intVals_at vs k hlt)
      have hok : OrdOk zs (orderS zs [] (vs.take k)) := orderS_ok OrdOk.nil_
      have hS : ∀ W, Below wr.heap.size wr W → (W.cell? ⟨w.heap.size, 0, none⟩ = some (.slice (some ⟨bv, ov, none⟩) vs.length ca) ∧ W.cell? ⟨w.heap.size, 1, none⟩ = some (.slice b zs.length cb)) ∧ W.cell? ⟨bv, ov + k, none⟩ = some (.int .i64 vs[k]) := fun W hB =>
        ⟨Box2.keep ⟨c0, c1⟩ hsr hB, (hB.cell (p := ⟨bv, ov + k, none⟩) hbv).trans hcv⟩
      have hD : Below wr.heap.size wr wr.drew := Below.drew (Below.refl _ _)
      generalize vs[k] = x at *
      have HTK := Lib.hid htk
      have HOK := Lib.hid hok
      clear htk hok hrow
      generalize hO : orderS zs [] (vs.take k) = O at *
      clear hO c0 c1 hcv
      have hOl := HOK.out.len
      obtain ⟨⟨c0, c1⟩, cv⟩ := hS _ (Below.refl _ _)
      go_wp2
      clear c0 c1 cv
      go_region_held3 (fun W => (W.cell? ⟨w.heap.size, 0, none⟩ = some (.slice (some ⟨bv, ov, none⟩) vs.length ca) ∧ W.cell? ⟨w.heap.size, 1, none⟩ = some (.slice b zs.length cb)) ∧ W.cell? ⟨bv, ov + k, none⟩ = some (.int .i64 x))
        (first | exact hS _ hD | exact hS _ (Below.drew hD) | exact hS _ H1)
        (first
          | (go_at_call 88; (with_reducible refine (specFollowed _ b _ ca cb zs x _ hz (HAT.out _ (hBr.trans (hD.mono hBr.size))).z).mono ?_); rintro e w1 ⟨fa, fc, rfl, hfc, hf1, hb1⟩; have H1 := hD.trans (hb1.mono hD.size)))
      have hfl := (followed_ok zs x).len
      rw [intVals_length] at *
      have hRM : wr.heap.size ≤ w1.heap.size := H1.size
      have hF1 : RowIn wr.heap.size w1.heap.size w1 fa (intVals (followed zs x)) := (OwnIn.of hf1).rowIn
      have hown1 := own_keeps Hown.out H1
      have hB1 := hb.trans (H1.mono hb.size)
      have hin1 : ∀ j, (Value.slice la O.length lc).ownBlock = some j → j < wr.heap.size ∨ w1.heap.size ≤ j := fun j hj => .inl (Hown.out.lt j hj).2
      clear hf1 hb1 Hown hb hBr
      generalize wr.heap.size = R at *
      generalize hM : w1.heap.size = M at *
      go_wp2
      go_loopw [3, 6] (fun l i wq => ∃ j : Nat, j ≤ (followed zs x).length ∧ i = .int .i64 j ∧ wq.ownsRow W0.heap.size 3 1 l (addAll O ((followed zs x).take j)).length (intVals (addAll O ((followed zs x).take j))) ∧ (∀ q, l.ownBlock = some q → q < R ∨ M ≤ q) ∧ RowIn R M wq fa (intVals (followed zs x)) ∧ Below W0.heap.size W0 wq)
        (fun _ i _ => (followed zs x).length - (intOf i).toNat)
      case atStart => exact ⟨0, Nat.zero_le _, rfl, hown1, hin1, hF1, hB1⟩
      case round =>
        obtain ⟨j, hj, rfl, hown2, hin2, hF2, hB2⟩ := hrel
        obtain ⟨ma, mc, rfl, hmc⟩ := own_shape' hown2
        have hok2 : OrdOk zs (addAll O ((followed zs x).take j)) := HOK.out.addAll fun y hy => (followed_ok zs x).cells y (List.mem_of_mem_take hy)
        have hol2 := hok2.len
        have Hown2 := Lib.hid hown2
        have HF2 := Lib.hid hF2
        have Hin2 := Lib.hid hin2
        clear hown2 hF2 hin2 hok2
        by_cases hlt2 : j < (followed zs x).length
        · have htk2 : addAll O ((followed zs x).take (j + 1)) = addAll (addAll O ((followed zs x).take j)) [(followed zs x)[j]] := by rw [take_step _ j hlt2, addAll_append]
          rw [addAll_one] at htk2
          have hFj := HF2.out.row j _ (intVals_at _ j hlt2)
          obtain ⟨bf, of_, rfl, hbf, hcf⟩ := hFj
          generalize (followed zs x)[j] = y at *
          have HTK2 := Lib.hid htk2
          clear htk2
          generalize hO2 : addAll O ((followed zs x).take j) = O2 at *
          clear hO2
          go_wp2_with fail
          refine (specHas ma mc O2 y _ (by omega) (Row.owned Hown2.out)).mono ?_
          rintro e w3 ⟨rfl, hb3⟩
          have hB3 := hB2.trans (hb3.mono hB2.size)
          have hown3 := own_keeps Hown2.out hb3
          have hF3 := HF2.out.below hb3
          have hcf3 := (hb3.cell (p := ⟨bf, of_ + j, none⟩) hbf).trans hcf
          clear hcf
          by_cases hm : y ∈ O2
          · have hmd := decide_eq_true hm
            have he := HTK2.out
            rw [if_pos hm] at he
            have He := Lib.hid he
            clear he hm
            go_wp2
            go_roundw
            case rel => exact ⟨j + 1, by omega, by go_num, (by rw [He.out]; exact hown3), Hin2.out, hF3, hB3⟩
            case measure => simp [intOf]; omega
          · have hmd := decide_eq_false hm
            have he := HTK2.out
            rw [if_neg hm] at he
            have He := Lib.hid he
            have Hown3 := Lib.hid hown3
            clear he hm hown3
            go_wp2_with (first
              | (at_builtin; refine wpList_append_own_at _ rfl (.tmp 35) (.tmp 40) 27 rfl W0.heap.size 3 i0 (.int .i64 0) 1 8 Tryd.underlying27 hi hz0 hz1 hz2 rfl (by decide) _ O2.length _ rfl (Hown3.out.alloc _) ⟨w3.heap.size, 0, none⟩ 1 1 [.int .i64 y] rfl rfl (oneCell_at _) (oneCell_int _) (by unfold maxLen; omega) (by omega) (by have := hB3.size; simp; omega) ?_; intro v4 w4 hown4 hg4 _ hloc; have hb4 := own_below (Hown3.out.alloc _) hg4 (by have := hB3.size; simp; omega) (hB3.alloc hB3.size _))
              | fail)
            have hsz3 : M ≤ w3.heap.size := hF3.1
            go_roundw
            case rel =>
              refine ⟨j + 1, by omega, by go_num, (by rw [He.out, intVals_snoc, List.length_append, List.length_singleton]; exact hown4), fun q hq => ?_, (hF3.below ((Below.refl _ _).alloc (Nat.le_refl _) _)).grown hg4 Hin2.out, hb4⟩
              rcases hloc with e | e
              · exact Hin2.out q (e ▸ hq)
              · rw [hq] at e
                have := Option.some.inj e
                simp at this
                omega
            case measure => simp [intOf]; omega
        · have hj' : j = (followed zs x).length := by omega
          subst hj'
          have ho := Hown2.out
          rw [List.take_length] at *
          have Ho := Lib.hid ho
          clear ho
          go_wp2
          go_roundw
          case rel => exact ⟨k + 1, by omega, by go_num, (by rw [HTK.out]; exact Ho.out), hB2⟩
          case measure => simp [intOf]; omega
    · have hk' : k = vs.length := by omega
      subst hk'
      have ho := Hown.out
      rw [List.take_length] at *
      have Ho := Lib.hid ho
      clear ho
      go_wp2
      go_ret
      exact built_end (intVals_length _).symm (own_base Ho.out hb0.size) hBr
end Go.Proofs.YtpmmjaceehlpiaaDoor
/-
  What a statement makes of a heap, in plain words: a code, the variables' cells, the next cells (before lost cells are looked for). A heap whose rows are written: its variables' row, its cells' row.
-/
namespace Go.Proofs.YtpmmjaceehlpiaaDoor
open Go Go.RowKit Go.ChangeShapes Go.WideShapes Go.ChangeAt

theorem three_boxL (w : World) (xs ys us : List Value) (t t' t'' : TypeId) : ∃ W0, ((w.alloc (.cells xs.toArray t)).alloc (.cells ys.toArray t')).alloc (.cells us.toArray t'') = W0 ∧ Below w.heap.size w W0 ∧ BoxL W0 w.heap.size xs ∧ BoxL W0 (w.heap.size + 1) ys ∧ BoxL W0 (w.heap.size + 2) us := by
  obtain ⟨W1, h1, hb1, b1, b2⟩ := two_boxL w xs ys t t'
  have h3 := BoxL.new W1 us t''
  have hs : W1.heap.size = w.heap.size + 2 := by rw [← h1]; simp
  have hb := (Below.refl W1.heap.size W1).alloc (Nat.le_refl _) (.cells us.toArray t'')
  rw [hs] at h3
  refine ⟨_, rfl, ?_, ?_, ?_, ?_⟩
  · rw [h1]; exact hb1.trans (hb.mono hb1.size)
  · rw [h1]; exact b1.below hb
  · rw [h1]; exact b2.below hb
  · rw [h1]; exact h3
abbrev Act3 := Int × List Int × List Int
def badC (k : Int) : Act3 := (k, [], [])
/-- The cells behind a freed one move up by one. -/
def lowC (c x : Int) : Int := if c < x then x - 1 else x
def freeS (pa : Nat) (vs zs : List Int) : Act3 :=
  if vs.getD pa (-1) = -1 then badC 2
  else if vs.getD pa (-1) ∈ vs.set pa (-1) ∨ vs.getD pa (-1) ∈ zs then badC 5
  else (0, (vs.set pa (-1)).map (lowC (vs.getD pa (-1))), (zs.eraseIdx (vs.getD pa (-1)).toNat).map (lowC (vs.getD pa (-1))))
def linkS (pa pb : Nat) (vs zs : List Int) : Act3 :=
  if vs.getD pa (-1) = -1 then badC 2
  else if vs.getD pa (-1) ∈ followed zs (vs.getD pb (-1)) then badC 3
  else (0, vs, zs.set (vs.getD pa (-1)).toNat (vs.getD pb (-1)))
def doS (k : Int) (pa pb : Nat) (vs zs : List Int) : Act3 :=
  if k = 1 then (0, vs, zs)
  else if k = 2 then (0, vs.set pa (-1), zs)
  else if k = 3 then if zs.length = 6 then badC 6 else (0, vs.set pa (zs.length : Int), zs ++ [-1])
  else if k = 4 then (0, vs.set pa (vs.getD pb (-1)), zs)
  else if k = 5 then if vs.getD pb (-1) = -1 then badC 2 else (0, vs.set pa (nextC zs (vs.getD pb (-1))), zs)
  else if k = 6 then if vs.getD pa (-1) = -1 then badC 2 else (0, vs, zs.set (vs.getD pa (-1)).toNat (-1))
  else if k = 7 then linkS pa pb vs zs
  else if k = 8 then freeS pa vs zs
  else if k = 9 then if vs.getD pa (-1) = -1 then (0, vs, zs) else badC 1
  else if k = 10 then if vs.getD pa (-1) = -1 then badC 1 else (0, vs, zs)
  else if k = 11 then if vs.getD pa (-1) = vs.getD pb (-1) then (0, vs, zs) else badC 1
  else if vs.getD pa (-1) = vs.getD pb (-1) then badC 1 else (0, vs, zs)
/-- A fault gives no heap; no list grows by more than one. -/
def Fine (vs zs : List Int) (r : Act3) : Prop := (r.1 ≠ 0 → r.2 = ([], [])) ∧ r.2.1.length ≤ vs.length ∧ r.2.2.length ≤ zs.length + 1
theorem fine_ite {vs zs : List Int} {c : Prop} [Decidable c] {x y : Act3} (h1 : Fine vs zs x) (h2 : Fine vs zs y) : Fine vs zs (if c then x else y) := by
  split
  · exact h1
  · exact h2
theorem fine_bad {vs zs : List Int} (k : Int) : Fine vs zs (badC k) := ⟨fun _ => rfl, Nat.zero_le _, Nat.zero_le _⟩
theorem fine_ok {vs zs vs' zs' : List Int} (h1 : vs'.length ≤ vs.length) (h2 : zs'.length ≤ zs.length + 1) : Fine vs zs (0, vs', zs') := ⟨fun h => absurd rfl h, h1, h2⟩
theorem doS_fine (k : Int) (pa pb : Nat) (vs zs : List Int) : Fine vs zs (doS k pa pb vs zs) := by
  unfold doS linkS freeS
  repeat' (first | exact fine_bad _ | apply fine_ite)
  all_goals refine fine_ok ?_ ?_
  all_goals first | (simp; done) | (simp only [List.length_map, List.length_eraseIdx]; split <;> omega)
theorem doS_bad {k : Int} {pa pb : Nat} {vs zs : List Int} (h : (doS k pa pb vs zs).1 ≠ 0) : doS k pa pb vs zs = badC (doS k pa pb vs zs).1 := Prod.ext rfl ((doS_fine k pa pb vs zs).1 h)

/-- What Exec comes to. -/
def execS (ss : List ByteArray) (k : Int) (a b : ByteArray) (vs zs : List Int) : Act3 :=
  if stmtB ss k a b = true ∧ heapB (ss.length : Int) vs zs = true then
    if (doS k (place ss a).toNat (place ss b).toNat vs zs).1 = 0 then
      if leakB (doS k (place ss a).toNat (place ss b).toNat vs zs).2.1 (doS k (place ss a).toNat (place ss b).toNat vs zs).2.2 = true then badC 4
      else (0, canonVs (doS k (place ss a).toNat (place ss b).toNat vs zs).2.1 (doS k (place ss a).toNat (place ss b).toNat vs zs).2.2, canonNs (doS k (place ss a).toNat (place ss b).toNat vs zs).2.1 (doS k (place ss a).toNat (place ss b).toNat vs zs).2.2)
    else badC (doS k (place ss a).toNat (place ss b).toNat vs zs).1
  else badC 7

/-- What a test of a heap says of its parts. -/
theorem heapB_parts {n : Int} {vs zs : List Int} (h : heapB n vs zs = true) : (1 ≤ vs.length ∧ vs.length ≤ 4 ∧ (vs.length : Int) = n) ∧ zs.length ≤ 6 ∧ goodB zs vs = true ∧ goodB zs zs = true ∧ acyc zs = true := by
  simp only [heapB, Bool.and_eq_true, decide_eq_true_eq] at h
  obtain ⟨⟨⟨h1, hg⟩, ha⟩, _⟩ := h
  exact ⟨⟨by omega, by omega, h1.2.2.1⟩, h1.2.2.2, (goodH_parts hg).1, (goodH_parts hg).2, ha⟩

theorem getD_at {l : List Int} {k : Nat} (h : k < l.length) : l.getD k (-1) = l[k] := by simp [h]

section
variable {lo hi : Nat} {W W' : World} {a b : Option Addr} {ca cb : Nat} {vs zs : List Int}
theorem HeapIn.setV {g k : Nat} (x : Int) (h : HeapIn lo hi W (some ⟨g, 0, none⟩) ca b cb (intVals vs) (intVals zs)) : HeapIn lo hi (W.setCell ⟨g, k, none⟩ (.int .i64 x)) (some ⟨g, 0, none⟩) ca b cb (intVals (vs.set k x)) (intVals zs) := by
  have ts := turn_set W g k (.int .i64 x)
  have el : (vs.set k x).length = vs.length := List.length_set
  have em : intVals (vs.set k x) = (intVals vs).set k (.int .i64 x) := by simp [intVals, List.map_set]
  have hv5 := h.v
  have hz5 := h.z
  have hap := h.apart
  have hap' := hap g (by rw [intVals_length]; rfl)
  refine ⟨?_, ⟨Nat.le_trans hz5.1 ts.size, own_other hz5.2.1 (grown_cell (i := k) (u := .int .i64 x) (grown_self W (some g))) (fun j hj e => hap' (e ▸ hj)), hz5.2.2⟩, ?_⟩
  · rw [intVals_length, el, em]
    rw [intVals_length] at hv5
    exact hv5.again (Nat.le_trans hv5.1 ts.size) (hv5.2.1.stored k (.int .i64 x)).1
  · rw [intVals_length, el]
    rw [intVals_length] at hap
    exact hap
theorem HeapIn.setZ {g k : Nat} (x : Int) (h : HeapIn lo hi W a ca (some ⟨g, 0, none⟩) cb (intVals vs) (intVals zs)) : HeapIn lo hi (W.setCell ⟨g, k, none⟩ (.int .i64 x)) a ca (some ⟨g, 0, none⟩) cb (intVals vs) (intVals (zs.set k x)) := by
  have ts := turn_set W g k (.int .i64 x)
  have el : (zs.set k x).length = zs.length := List.length_set
  have em : intVals (zs.set k x) = (intVals zs).set k (.int .i64 x) := by simp [intVals, List.map_set]
  have hv5 := h.v
  have hz5 := h.z
  have hap := h.apart
  refine ⟨⟨Nat.le_trans hv5.1 ts.size, own_other hv5.2.1 (grown_cell (i := k) (u := .int .i64 x) (grown_self W (some g))) (fun j hj e => hap j hj (by rw [intVals_length]; exact e.symm)), hv5.2.2⟩, ?_, ?_⟩
  · rw [intVals_length, el, em]
    rw [intVals_length] at hz5
    exact hz5.again (Nat.le_trans hz5.1 ts.size) (hz5.2.1.stored k (.int .i64 x)).1
  · rw [intVals_length, intVals_length, el]
    rw [intVals_length, intVals_length] at hap
    exact hap
/-- An own row of at least one cell has a block. -/
theorem OwnIn.block_ {e n c : Nat} {xs : List Value} (h : OwnIn lo hi W e 1 (.slice a n c) n xs) (hn : 0 < n) : ∃ g, a = some ⟨g, 0, none⟩ ∧ lo ≤ g ∧ g < hi := by
  rcases h.2.1.2 with ⟨_, h0⟩ | ⟨g, _, _, hv, hg, _⟩
  · omega
  · injection hv with hv _ _
    exact ⟨g, hv, hg, h.2.2 g (by rw [hv]; rfl)⟩
theorem OwnIn.cellInt {e c g : Nat} {xs : List Int} (h : OwnIn lo hi W e 1 (.slice (some ⟨g, 0, none⟩) (intVals xs).length c) (intVals xs).length (intVals xs)) (k : Nat) (hk : k < xs.length) : W.cell? ⟨g, k, none⟩ = some (.int .i64 xs[k]) := by
  have h1 := h.2.1.cells (g := g) rfl k _ (intVals_at xs k hk)
  rw [add_plain] at h1
  simpa using h1
theorem OwnIn.frozen_ {e n c g : Nat} {xs : List Value} (h : OwnIn lo hi W e 1 (.slice (some ⟨g, 0, none⟩) n c) n xs) (k : Nat) : W.frozen? ⟨g, k, none⟩ = false := h.2.1.frozenAt k
end

/-- The heap's blocks. -/
def blocksH (a b : Option Addr) (n ca m cb : Nat) (k : Nat) : Prop := (Value.slice a n ca).ownBlock = some k ∨ (Value.slice b m cb).ownBlock = some k
theorem blocksH_any {a b : Option Addr} {n ca m cb n' ca' m' cb' k : Nat} (h : blocksH a b n ca m cb k) : blocksH a b n' ca' m' cb' k := by
  cases a <;> cases b <;> exact h
/-- Only blocks from lo on, below hi, for which S holds, may have turned. -/
structure TurnB (lo hi : Nat) (S : Nat → Prop) (w w' : World) : Prop where
  t : Turn lo hi w w'
  o : ∀ k, k < w.heap.size → ¬ S k → w'.heap[k]? = w.heap[k]?
section
variable {lo hi : Nat} {S : Nat → Prop} {w W W' : World}
theorem TurnB.size (h : TurnB lo hi S w W) : w.heap.size ≤ W.heap.size := h.t.size
theorem TurnB.of_below (h : Below w.heap.size w W) : TurnB lo hi S w W := ⟨Turn.of_below h, fun k hk _ => h.block k hk⟩
theorem TurnB.trans (h : TurnB lo hi S w W) (k : TurnB lo hi S W W') : TurnB lo hi S w W' := ⟨h.t.trans k.t, fun j hj hd => (k.o j (Nat.lt_of_lt_of_le hj h.size) hd).trans (h.o j hj hd)⟩
/-- What is written at blocks that are new to w. -/
theorem TurnB.setNew (t : TurnB lo hi S w W) {Q i : Nat} {u : Value} (hQ : w.heap.size ≤ Q) : TurnB lo hi S w (W.setCell ⟨Q, i, none⟩ u) :=
  ⟨⟨t.t.os, t.t.tape, t.t.output, by simpa using t.size, fun k hk hd => (Below.heap_setCell _ _ _ _ (by show k ≠ Q; omega)).trans (t.t.block k hk hd)⟩,
    fun k hk hd => (Below.heap_setCell _ _ _ _ (by show k ≠ Q; omega)).trans (t.o k hk hd)⟩
theorem TurnB.draws (h : TurnB lo hi S w W) : TurnB lo hi S w W.drew := h.trans (TurnB.of_below (Below.drew (Below.refl _ _)))
theorem TurnB.of_one {q : Nat} (t : Turn q (q + 1) w W) (h1 : lo ≤ q) (h2 : q < hi) (hS : S q) : TurnB lo hi S w W :=
  ⟨t.mono h1 (by omega), fun k hk hd => t.block k hk (by have : k ≠ q := fun e => hd (e ▸ hS); omega)⟩
theorem turnB_at {g k : Nat} (u : Value) (h1 : lo ≤ g) (h2 : g < hi) (hS : S g) : TurnB lo hi S w (w.setCell ⟨g, k, none⟩ u) := TurnB.of_one (turn_set w g k u) h1 h2 hS
theorem TurnB.of_grown {r : Option Nat} (h : w.grownBy W r) (hr : ∀ k, r = some k → lo ≤ k ∧ k < hi ∧ S k) : TurnB lo hi S w W :=
  ⟨Turn.of_grown h fun k hk => ⟨(hr k hk).1, (hr k hk).2.1⟩, fun k hk hd => h.block k hk fun e => hd (hr k e.symm).2.2⟩
theorem BoxL.turnB {g : Nat} {xs : List Value} (h : BoxL w g xs) (t : TurnB lo hi S w W) (hd : ¬ S g) : BoxL W g xs :=
  ⟨fun i x hx => (World.cell?_of_block (t.o g h.lt hd)).trans (h.c i x hx), fun o => (World.frozen?_of_block (t.o g h.lt hd)).trans (h.f o), Nat.lt_of_lt_of_le h.lt t.size⟩
end

/-- A statement's action on a heap that may be written: what it answers, and that only the heap's blocks (S) have turned. -/
def Acted (lo hi : Nat) (S : Nat → Prop) (r : Act3) (w : World) (e : Ending) (w' : World) : Prop :=
  ∃ a ca b cb, e = .returned (.tuple #[heV a r.2.1.length ca b r.2.2.length cb, .int .i64 r.1]) ∧ HeapIn lo w'.heap.size w' a ca b cb (intVals r.2.1) (intVals r.2.2) ∧ TurnB lo hi S w w' ∧ (∀ k, blocksH a b r.2.1.length ca r.2.2.length cb k → S k ∨ w.heap.size ≤ k)
theorem heapIn_nil {lo hi : Nat} {W : World} (h : hi ≤ W.heap.size) : HeapIn lo hi W none 0 none 0 (intVals []) (intVals []) :=
  ⟨⟨h, World.ownsRow_nil _ _ _ _, fun k hk => by cases hk⟩, ⟨h, World.ownsRow_nil _ _ _ _, fun k hk => by cases hk⟩, fun j hj => by cases hj⟩
theorem acted_bad {lo hi : Nat} {S : Nat → Prop} {k : Int} {w w' : World} (h : TurnB lo hi S w w') : Acted lo hi S (badC k) w (.returned (.tuple #[heV none 0 0 none 0 0, .int .i64 k])) w' :=
  ⟨none, 0, none, 0, rfl, heapIn_nil (Nat.le_refl _), h, fun k hk => by rcases hk with hk | hk <;> cases hk⟩
end Go.Proofs.YtpmmjaceehlpiaaDoor
/-
  The program's actions on a heap that may be written, one a kind of statement.
-/
namespace Go.Proofs.YtpmmjaceehlpiaaDoor
open Go Go.RowKit Go.ChangeShapes Go.WideShapes Go.ChangeAt

theorem acted_ok {lo hi : Nat} {S : Nat → Prop} {w W1 w' : World} {a b : Option Addr} {ca cb : Nat} {vs zs : List Int} (h : HeapIn lo hi W1 a ca b cb (intVals vs) (intVals zs)) (t : TurnB lo hi S w W1) (hb : Below W1.heap.size W1 w') (hS : ∀ k, blocksH a b vs.length ca zs.length cb k → S k ∨ w.heap.size ≤ k) :
    Acted lo hi S (0, vs, zs) w (.returned (.tuple #[heV a vs.length ca b zs.length cb, .int .i64 0])) w' :=
  ⟨a, ca, b, cb, rfl, (h.below hb).mono (Nat.le_refl _) (Nat.le_trans h.v.1 hb.size) (Nat.le_refl _), t.trans (TurnB.of_below hb), hS⟩
theorem acted_to {lo hi n m : Nat} {S : Nat → Prop} {w W1 w' : World} {a b : Option Addr} {ca cb : Nat} {vs zs : List Int} (h : HeapIn lo hi W1 a ca b cb (intVals vs) (intVals zs)) (t : TurnB lo hi S w W1) (hn : vs.length = n) (hm : zs.length = m) (hb : Below W1.heap.size W1 w') (hS : ∀ k, blocksH a b vs.length ca zs.length cb k → S k ∨ w.heap.size ≤ k := by intro k hk; exact Or.inl (blocksH_any hk)) :
    Acted lo hi S (0, vs, zs) w (.returned (.tuple #[heV a n ca b m cb, .int .i64 0])) w' := by
  subst hn hm
  exact acted_ok h t hb hS
theorem two_below (w : World) (x y : Obj) : Below w.heap.size w ((w.alloc x).alloc y) := ((Below.refl _ _).alloc (Nat.le_refl _) _).alloc (by simp) _
theorem getD_cell {l : List Int} {k : Nat} (h : k < l.length) : l.getD k (-1) = l[k] := by simp [h]
/-- A variable's cell, if it is one. -/
theorem var_cell {zs vs : List Int} {k : Nat} (hk : k < vs.length) (hg : goodB zs vs = true) (hn : vs[k] ≠ -1) : ∃ c : Nat, vs[k] = (c : Int) ∧ c < zs.length := by
  rcases goodB_at hg (List.getElem_mem hk) with h | h
  · exact absurd h hn
  · exact isC_nat h

theorem HeapIn.setNot {lo hi : Nat} {W : World} {a b : Option Addr} {ca cb : Nat} {vs zs : List Int} {Q i : Nat} {u : Value} (h : HeapIn lo hi W a ca b cb (intVals vs) (intVals zs)) (hne : ∀ k, blocksH a b vs.length ca zs.length cb k → k ≠ Q) :
    HeapIn lo hi (W.setCell ⟨Q, i, none⟩ u) a ca b cb (intVals vs) (intVals zs) := by
  have hv := h.v
  have hz := h.z
  have hap := h.apart
  rw [intVals_length, intVals_length] at hap
  rw [intVals_length] at hv hz
  refine ⟨?_, ?_, ?_⟩
  · rw [intVals_length]
    exact ⟨by simpa using hv.1, own_other hv.2.1 (grown_cell (grown_self W (some Q))) (fun k hk e => hne k (.inl hk) (Option.some.inj e)), hv.2.2⟩
  · rw [intVals_length]
    exact ⟨by simpa using hz.1, own_other hz.2.1 (grown_cell (grown_self W (some Q))) (fun k hk e => hne k (.inr hk) (Option.some.inj e)), hz.2.2⟩
  · rw [intVals_length, intVals_length]
    exact hap
theorem acted_of {lo hi n m : Nat} {S : Nat → Prop} {w w' : World} {a b : Option Addr} {ca cb : Nat} {vs zs : List Int} (hn : vs.length = n) (hm : zs.length = m) (h : HeapIn lo w'.heap.size w' a ca b cb (intVals vs) (intVals zs)) (t : TurnB lo hi S w w') (hS : ∀ k, blocksH a b vs.length ca zs.length cb k → S k ∨ w.heap.size ≤ k := by intro k hk; exact Or.inl (blocksH_any hk)) :
    Acted lo hi S (0, vs, zs) w (.returned (.tuple #[heV a n ca b m cb, .int .i64 0])) w' := by
  subst hn hm
  exact ⟨a, ca, b, cb, rfl, h, t, hS⟩
theorem HeapIn.blocks {lo hi : Nat} {W : World} {a b : Option Addr} {ca cb : Nat} {vs zs : List Int} (h : HeapIn lo hi W a ca b cb (intVals vs) (intVals zs)) : ∀ k, blocksH a b vs.length ca zs.length cb k → lo ≤ k ∧ k < hi := by
  have hv := h.v
  have hz := h.z
  rw [intVals_length] at hv hz
  rintro k (e | e)
  · exact ⟨(hv.2.1.lt k e).1, hv.2.2 k e⟩
  · exact ⟨(hz.2.1.lt k e).1, hz.2.2 k e⟩
/-- The answer is written into a box that is new to w. -/
theorem heap_box {lo hi Q : Nat} {S : Nat → Prop} {w W2 : World} {a b : Option Addr} {ca cb : Nat} {vs zs : List Int} {u v : Value} (h2 : HeapIn lo hi W2 a ca b cb (intVals vs) (intVals zs)) (T2 : TurnB lo hi S w W2) (hhi : hi ≤ w.heap.size) (hQ : w.heap.size ≤ Q) :
    HeapIn lo ((W2.setCell ⟨Q, 0, none⟩ u).setCell ⟨Q, 1, none⟩ v).heap.size ((W2.setCell ⟨Q, 0, none⟩ u).setCell ⟨Q, 1, none⟩ v) a ca b cb (intVals vs) (intVals zs) ∧ TurnB lo hi S w ((W2.setCell ⟨Q, 0, none⟩ u).setCell ⟨Q, 1, none⟩ v) := by
  have hbl := h2.blocks
  have hs : ((W2.setCell ⟨Q, 0, none⟩ u).setCell ⟨Q, 1, none⟩ v).heap.size = W2.heap.size := by simp
  refine ⟨?_, (T2.setNew hQ).setNew hQ⟩
  rw [hs]
  exact ((h2.setNot (Q := Q) fun k hk => by have := hbl k hk; omega).setNot (Q := Q) fun k hk => by have := hbl k hk; omega).mono (Nat.le_refl _) h2.v.1 (by rw [hs]; exact Nat.le_refl _)
theorem HeapIn.draws {lo hi : Nat} {W : World} {a b : Option Addr} {ca cb : Nat} {vs zs : List Value} (h : HeapIn lo hi W a ca b cb vs zs) : HeapIn lo hi W.drew a ca b cb vs zs := h.below (Below.drew (Below.refl _ _))
set_option maxHeartbeats 800000 in
theorem implDoSkip {lo hi : Nat} {a b : Option Addr} {ca cb : Nat} {vs zs : List Int} (x y : Int) {w : World} (h : HeapIn lo hi w a ca b cb (intVals vs) (intVals zs)) :
    Calls Tryd.prog 71 #[heV a vs.length ca b zs.length cb, .int .i64 x, .int .i64 y] w (Acted lo hi (blocksH a b vs.length ca zs.length cb) (0, vs, zs) w) := by
  go_enter Tryd.func71, Tryd.ntmps71
  go_wp2
  refine bodyPost_ret (v := .tuple #[heV a vs.length ca b zs.length cb, .int .i64 0]) (by simp [results, Tryd.results71, go_sem]) rfl ?_
  refine acted_to h (TurnB.of_below (Below.refl _ _)) rfl rfl ?_
  repeat (first | with_reducible exact Below.refl _ _ | refine Below.drew ?_ | refine Below.alloc ?_ (by simp <;> omega) _ | refine Below.setCell ?_ (by simp <;> omega) _)

set_option maxHeartbeats 800000 in
theorem implDoNull {lo hi pa : Nat} {a b : Option Addr} {ca cb : Nat} {vs zs : List Int} (y : Int) {w : World} (h : HeapIn lo hi w a ca b cb (intVals vs) (intVals zs)) (hp : pa < vs.length) :
    Calls Tryd.prog 72 #[heV a vs.length ca b zs.length cb, .int .i64 pa, .int .i64 y] w (Acted lo hi (blocksH a b vs.length ca zs.length cb) (0, vs.set pa (-1), zs) w) := by
  obtain ⟨g, rfl, hg1, hg2⟩ := h.v.block_ (by rw [intVals_length]; omega)
  have hhi := h.v.1
  have n0 : ¬ w.heap.size = g := by omega
  have n1 : ¬ w.heap.size + 1 = g := by omega
  have n2 : g < w.heap.size := by omega
  have n3 : g < w.heap.size + 1 := by omega
  have hold := h.v.cellInt pa hp
  have hfr := h.v.frozen_ pa
  go_enter Tryd.func72, Tryd.ntmps72
  go_wp2
  refine bodyPost_ret (v := .tuple #[heV (some ⟨g, 0, none⟩) vs.length ca b zs.length cb, .int .i64 0]) (by simp [results, Tryd.results72, go_sem]) rfl ?_
  refine acted_to (h.setV (k := pa) (-1)) (turnB_at _ hg1 hg2 (.inl rfl)) List.length_set rfl ?_
  repeat (first | with_reducible exact Below.refl _ _ | refine Below.drew ?_ | refine Below.alloc ?_ (by simp <;> omega) _ | refine Below.setCell ?_ (by simp <;> omega) _)

set_option maxHeartbeats 800000 in
theorem implDoCopy {lo hi pa pb : Nat} {a b : Option Addr} {ca cb : Nat} {vs zs : List Int} {w : World} (h : HeapIn lo hi w a ca b cb (intVals vs) (intVals zs)) (hp : pa < vs.length) (hq : pb < vs.length) :
    Calls Tryd.prog 74 #[heV a vs.length ca b zs.length cb, .int .i64 pa, .int .i64 pb] w (Acted lo hi (blocksH a b vs.length ca zs.length cb) (0, vs.set pa (vs.getD pb (-1)), zs) w) := by
  rw [getD_cell hq]
  obtain ⟨g, rfl, hg1, hg2⟩ := h.v.block_ (by rw [intVals_length]; omega)
  have hhi := h.v.1
  have n0 : ¬ w.heap.size = g := by omega
  have n1 : ¬ w.heap.size + 1 = g := by omega
  have n2 : g < w.heap.size := by omega
  have n3 : g < w.heap.size + 1 := by omega
  have hold := h.v.cellInt pa hp
  have hsrc := h.v.cellInt pb hq
  have hfr := h.v.frozen_ pa
  go_enter Tryd.func74, Tryd.ntmps74
  go_wp2
  go_region
  all_goals
    go_wp2
    refine bodyPost_ret (v := .tuple #[heV (some ⟨g, 0, none⟩) vs.length ca b zs.length cb, .int .i64 0]) (by simp [results, Tryd.results74, go_sem]) rfl ?_
    refine acted_to (h.setV (k := pa) vs[pb]) (turnB_at _ hg1 hg2 (.inl rfl)) List.length_set rfl ?_
    repeat (first | with_reducible exact Below.refl _ _ | refine Below.drew ?_ | refine Below.alloc ?_ (by simp <;> omega) _ | refine Below.setCell ?_ (by simp <;> omega) _)

set_option maxHeartbeats 800000 in
theorem implDoNext {lo hi pa pb : Nat} {a b : Option Addr} {ca cb : Nat} {vs zs : List Int} {w : World} (h : HeapIn lo hi w a ca b cb (intVals vs) (intVals zs)) (hp : pa < vs.length) (hq : pb < vs.length) (hgv : goodB zs vs = true) :
    Calls Tryd.prog 75 #[heV a vs.length ca b zs.length cb, .int .i64 pa, .int .i64 pb] w (Acted lo hi (blocksH a b vs.length ca zs.length cb) (if vs.getD pb (-1) = -1 then badC 2 else (0, vs.set pa (nextC zs (vs.getD pb (-1))), zs)) w) := by
  rw [getD_cell hq]
  obtain ⟨g, rfl, hg1, hg2⟩ := h.v.block_ (by rw [intVals_length]; omega)
  have hhi := h.v.1
  have n0 : ¬ w.heap.size = g := by omega
  have n1 : ¬ w.heap.size + 1 = g := by omega
  have n2 : g < w.heap.size := by omega
  have n3 : g < w.heap.size + 1 := by omega
  have hold := h.v.cellInt pa hp
  have hsrc := h.v.cellInt pb hq
  have hfr := h.v.frozen_ pa
  by_cases hn : vs[pb] = -1
  · rw [if_pos hn]
    rw [hn] at hsrc
    clear hn
    go_enter Tryd.func75, Tryd.ntmps75
    go_wp2
    refine bodyPost_ret (v := .tuple #[heV none 0 0 none 0 0, .int .i64 2]) (by simp [results, Tryd.results75, go_sem]) rfl ?_
    refine acted_bad (TurnB.of_below ?_)
    repeat (first | with_reducible exact Below.refl _ _ | refine Below.drew ?_ | refine Below.alloc ?_ (by simp <;> omega) _ | refine Below.setCell ?_ (by simp <;> omega) _)
  · rw [if_neg hn]
    obtain ⟨c, hc, hcl⟩ := var_cell hq hgv hn
    have hne : ((c : Int) == -1) = false := by simp only [beq_eq_false_iff_ne, ne_eq]; omega
    rw [hc] at hsrc ⊢
    rw [nextC_at hcl]
    clear hn
    obtain ⟨q, rfl, hq1, hq2⟩ := h.z.block_ (by rw [intVals_length]; omega)
    have m0 : ¬ w.heap.size = q := by omega
    have m1 : ¬ w.heap.size + 1 = q := by omega
    have m2 : q < w.heap.size := by omega
    have m3 : q < w.heap.size + 1 := by omega
    have hnx := h.z.cellInt c hcl
    go_enter Tryd.func75, Tryd.ntmps75
    go_wp2
    go_region
    all_goals
      go_wp2
      refine bodyPost_ret (v := .tuple #[heV (some ⟨g, 0, none⟩) vs.length ca (some ⟨q, 0, none⟩) zs.length cb, .int .i64 0]) (by simp [results, Tryd.results75, go_sem]) rfl ?_
      refine acted_to (h.setV (k := pa) zs[c]) (turnB_at _ hg1 hg2 (.inl rfl)) List.length_set rfl ?_
      repeat (first | with_reducible exact Below.refl _ _ | refine Below.drew ?_ | refine Below.alloc ?_ (by simp <;> omega) _ | refine Below.setCell ?_ (by simp <;> omega) _)

set_option maxHeartbeats 800000 in
theorem implDoCut {lo hi pa : Nat} {a b : Option Addr} {ca cb : Nat} {vs zs : List Int} (y : Int) {w : World} (h : HeapIn lo hi w a ca b cb (intVals vs) (intVals zs)) (hp : pa < vs.length) (hgv : goodB zs vs = true) :
    Calls Tryd.prog 76 #[heV a vs.length ca b zs.length cb, .int .i64 pa, .int .i64 y] w (Acted lo hi (blocksH a b vs.length ca zs.length cb) (if vs.getD pa (-1) = -1 then badC 2 else (0, vs, zs.set (vs.getD pa (-1)).toNat (-1))) w) := by
  rw [getD_cell hp]
  obtain ⟨g, rfl, hg1, hg2⟩ := h.v.block_ (by rw [intVals_length]; omega)
  have hhi := h.v.1
  have n0 : ¬ w.heap.size = g := by omega
  have n1 : ¬ w.heap.size + 1 = g := by omega
  have n2 : g < w.heap.size := by omega
  have n3 : g < w.heap.size + 1 := by omega
  have hsrc := h.v.cellInt pa hp
  by_cases hn : vs[pa] = -1
  · rw [if_pos hn]
    rw [hn] at hsrc
    clear hn
    go_enter Tryd.func76, Tryd.ntmps76
    go_wp2
    refine bodyPost_ret (v := .tuple #[heV none 0 0 none 0 0, .int .i64 2]) (by simp [results, Tryd.results76, go_sem]) rfl ?_
    refine acted_bad (TurnB.of_below ?_)
    repeat (first | with_reducible exact Below.refl _ _ | refine Below.drew ?_ | refine Below.alloc ?_ (by simp <;> omega) _ | refine Below.setCell ?_ (by simp <;> omega) _)
  · rw [if_neg hn]
    obtain ⟨c, hc, hcl⟩ := var_cell hp hgv hn
    have hne : ((c : Int) == -1) = false := by simp only [beq_eq_false_iff_ne, ne_eq]; omega
    rw [hc] at hsrc ⊢
    rw [Int.toNat_natCast]
    clear hn
    obtain ⟨q, rfl, hq1, hq2⟩ := h.z.block_ (by rw [intVals_length]; omega)
    have m0 : ¬ w.heap.size = q := by omega
    have m1 : ¬ w.heap.size + 1 = q := by omega
    have m2 : q < w.heap.size := by omega
    have m3 : q < w.heap.size + 1 := by omega
    have hold := h.z.cellInt c hcl
    have hfr := h.z.frozen_ c
    go_enter Tryd.func76, Tryd.ntmps76
    go_wp2
    go_region
    all_goals
      go_wp2
      refine bodyPost_ret (v := .tuple #[heV (some ⟨g, 0, none⟩) vs.length ca (some ⟨q, 0, none⟩) zs.length cb, .int .i64 0]) (by simp [results, Tryd.results76, go_sem]) rfl ?_
      refine acted_to (h.setZ (k := c) (-1)) (turnB_at _ hq1 hq2 (.inr rfl)) rfl List.length_set ?_
      repeat (first | with_reducible exact Below.refl _ _ | refine Below.drew ?_ | refine Below.alloc ?_ (by simp <;> omega) _ | refine Below.setCell ?_ (by simp <;> omega) _)

end Go.Proofs.YtpmmjaceehlpiaaDoor
/-
  The program's action that frees a cell.
-/
namespace Go.Proofs.YtpmmjaceehlpiaaDoor
open Go Go.RowKit Go.ChangeShapes Go.WideShapes Go.ChangeAt

/-- A list whose first j elements are done. -/
def mixL (f : Int → Int) (l : List Int) (j : Nat) : List Int := (l.take j).map f ++ l.drop j
theorem mixL_length (f : Int → Int) (l : List Int) (j : Nat) : (mixL f l j).length = l.length := by simp [mixL]; omega
theorem mixL_zero (f : Int → Int) (l : List Int) : mixL f l 0 = l := by simp [mixL]
theorem mixL_all (f : Int → Int) (l : List Int) : mixL f l l.length = l.map f := by simp [mixL]
theorem mixL_at (f : Int → Int) (l : List Int) {j : Nat} (h : j < l.length) (h' : j < (mixL f l j).length) : (mixL f l j)[j] = l[j] := by
  simp only [mixL]
  rw [List.getElem_append_right (by simp; omega)]
  simp only [List.length_map, List.length_take, List.getElem_drop]
  congr 1
  omega
theorem mixL_next (f : Int → Int) (l : List Int) {j : Nat} (h : j < l.length) : (mixL f l j).set j (f l[j]) = mixL f l (j + 1) := by
  have e : (l.drop j) = l[j] :: l.drop (j + 1) := List.drop_eq_getElem_cons h
  simp only [mixL]
  rw [e, take_next l j h, List.map_append, List.append_assoc, List.set_append_right _ _ (by simp; omega)]
  simp only [List.length_map, List.length_take]
  rw [show j - min j l.length = 0 by omega]
  rfl
theorem mixL_same (f : Int → Int) (l : List Int) {j : Nat} (h : j < l.length) (hf : f l[j] = l[j]) : mixL f l (j + 1) = mixL f l j := by
  rw [← mixL_next f l h, hf]
  have := mixL_at f l h (by rw [mixL_length]; exact h)
  conv => lhs; rw [← this]
  exact List.set_getElem_self _

/-- The cells' row lost a cell. -/
theorem HeapIn.lessZ {lo hi q k : Nat} {W W' : World} {a : Option Addr} {ca cb : Nat} {vs zs : List Int} (h : HeapIn lo hi W a ca (some ⟨q, 0, none⟩) cb (intVals vs) (intVals zs)) (hk : k < zs.length)
    (ho : OwnIn lo hi W' 3 1 (.slice (some ⟨q, 0, none⟩) (zs.length - 1) cb) (zs.length - 1) (intVals (zs.eraseIdx k))) (t : Turn q (q + 1) W W') : HeapIn lo hi W' a ca (some ⟨q, 0, none⟩) cb (intVals vs) (intVals (zs.eraseIdx k)) := by
  have hl : (zs.eraseIdx k).length = zs.length - 1 := by rw [List.length_eraseIdx, if_pos hk]
  have hv := h.v
  have hap := h.apart
  rw [intVals_length, intVals_length] at hap
  rw [intVals_length] at hv
  have hg : W.grownBy W' (some q) := ⟨t.os, t.tape, t.output, t.size, fun j hj hne => t.block j hj (by have : j ≠ q := fun e => hne (by rw [e]); omega)⟩
  refine ⟨?_, ?_, ?_⟩
  · rw [intVals_length]
    exact ⟨Nat.le_trans hv.1 t.size, own_other hv.2.1 hg (fun j hj e => hap j hj (by rw [e]; rfl)), hv.2.2⟩
  · rw [intVals_length, hl]
    exact ho
  · rw [intVals_length, intVals_length, hl]
    exact hap

/-- What the walk of withoutCell keeps: the argument's box, the answer's box, the list of both rows, the heap. -/
structure Wo (w : World) (S : Nat → Prop) (lo hi L q ca cb n m : Nat) (a : Option Addr) (us ys : List Int) (W : World) : Prop where
  arg : BoxL W w.heap.size [.slice a n ca, .slice (some ⟨q, 0, none⟩) m cb]
  res : BoxL W (w.heap.size + 1) [.slice none 0 0, .slice none 0 0]
  two : BoxL W L [.slice a n ca, .slice (some ⟨q, 0, none⟩) m cb]
  heap : HeapIn lo hi W a ca (some ⟨q, 0, none⟩) cb (intVals us) (intVals ys)
  turn : TurnB lo hi S w W
  hn : us.length = n
  hm : ys.length = m
  hL : w.heap.size + 1 < L
  hhi : hi ≤ w.heap.size
theorem Wo.setV {w W : World} {S : Nat → Prop} {lo hi L q ca cb n m g k : Nat} {us ys : List Int} (x : Int) (h : Wo w S lo hi L q ca cb n m (some ⟨g, 0, none⟩) us ys W) (hg1 : lo ≤ g) (hg2 : g < hi) (hS : S g) : Wo w S lo hi L q ca cb n m (some ⟨g, 0, none⟩) (us.set k x) ys (W.setCell ⟨g, k, none⟩ (.int .i64 x)) := by
  have ts := turn_set W g k (.int .i64 x)
  have h1 := h.hL
  have h2 := h.hhi
  exact ⟨h.arg.turn ts (.inr (by omega)), h.res.turn ts (.inr (by omega)), h.two.turn ts (.inr (by omega)), h.heap.setV x, h.turn.trans (turnB_at _ hg1 hg2 hS), by rw [List.length_set]; exact h.hn, h.hm, h1, h2⟩
theorem Wo.setZ {w W : World} {S : Nat → Prop} {lo hi L q ca cb n m k : Nat} {a : Option Addr} {us ys : List Int} (x : Int) (h : Wo w S lo hi L q ca cb n m a us ys W) (hg1 : lo ≤ q) (hg2 : q < hi) (hS : S q) : Wo w S lo hi L q ca cb n m a us (ys.set k x) (W.setCell ⟨q, k, none⟩ (.int .i64 x)) := by
  have ts := turn_set W q k (.int .i64 x)
  have h1 := h.hL
  have h2 := h.hhi
  exact ⟨h.arg.turn ts (.inr (by omega)), h.res.turn ts (.inr (by omega)), h.two.turn ts (.inr (by omega)), h.heap.setZ x, h.turn.trans (turnB_at _ hg1 hg2 hS), h.hn, by rw [List.length_set]; exact h.hm, h1, h2⟩

def Without (lo hi : Nat) (S : Nat → Prop) (vs zs : List Int) (w : World) (e : Ending) (w' : World) : Prop :=
  ∃ a ca b cb, e = .returned (heV a vs.length ca b zs.length cb) ∧ HeapIn lo hi w' a ca b cb (intVals vs) (intVals zs) ∧ TurnB lo hi S w w' ∧ (∀ k, blocksH a b vs.length ca zs.length cb k → S k)
set_option maxRecDepth 100000 in
set_option maxHeartbeats 3200000 in
theorem implWithout {lo hi q c : Nat} {S : Nat → Prop} {a : Option Addr} {ca cb : Nat} {vs zs : List Int} {w : World} (h : HeapIn lo hi w a ca (some ⟨q, 0, none⟩) cb (intVals vs) (intVals zs)) (hq1 : lo ≤ q) (hq2 : q < hi) (hc : c < zs.length) (hv4 : vs.length ≤ 4) (hz6 : zs.length ≤ 6)
    (hbv : ∀ x ∈ vs, -1 ≤ x ∧ x ≤ 6) (hbz : ∀ x ∈ zs, -1 ≤ x ∧ x ≤ 6) (hSq : S q) (hSa : ∀ g, a = some ⟨g, 0, none⟩ → S g) (hSa' : ∀ p : Addr, a = some p → S p.block) :
    Calls Tryd.prog 96 #[heV a vs.length ca (some ⟨q, 0, none⟩) zs.length cb, .int .i64 c] w (Without lo hi S (vs.map (lowC c)) ((zs.eraseIdx c).map (lowC c)) w) := by
  have hhi := h.v.1
  have hl : (zs.eraseIdx c).length = zs.length - 1 := by rw [List.length_eraseIdx, if_pos hc]
  have hbe : ∀ x ∈ zs.eraseIdx c, -1 ≤ x ∧ x ≤ 6 := fun x hx => hbz x (List.mem_of_mem_eraseIdx hx)
  obtain ⟨W0, hW0, hb0, bn0, bp0⟩ := two_boxL w [.slice a vs.length ca, .slice (some ⟨q, 0, none⟩) zs.length cb] [.slice none 0 0, .slice none 0 0] 29 29
  replace hW0 : ((w.alloc (.cells #[.slice a vs.length ca, .slice (some ⟨q, 0, none⟩) zs.length cb] 29)).alloc (.cells #[.slice none 0 0, .slice none 0 0] 29)) = W0 := hW0
  have c0 := bn0.c 0 _ rfl
  have c1 := bn0.c 1 _ rfl
  have h0 := h.turn (lo' := hi) (hi' := hi) (Turn.of_below hb0) (.inl (Nat.le_refl _))
  have hz0 := h0.z
  rw [intVals_length] at hz0
  go_enter Tryd.func96, Tryd.ntmps96
  go_wp2_with fail
  clear hW0
  rw [show (c : Int) + 1 = ((c + 1 : Nat) : Int) by omega]
  refine (libDelete hc hz0).mono ?_
  rintro e w1 ⟨rfl, ho1, t1⟩
  have h1 := h0.lessZ hc ho1 t1
  have bn1 := bn0.turn t1 (.inr (by omega))
  have bp1 := bp0.turn t1 (.inr (by omega))
  have T1 := (TurnB.of_below hb0 (lo := lo) (hi := hi) (S := S)).trans (TurnB.of_one t1 hq1 (by omega) hSq)
  have e0 := bn1.c 0 _ rfl
  have e1 := bn1.c 1 _ rfl
  have ef := bn1.f
  have hs1 := bp1.lt
  clear c0 c1 h0 hz0 ho1 t1 bn0 bp0 hb0
  have HW1 : Wo w S lo hi w1.heap.size q ca cb vs.length (zs.length - 1) a vs (zs.eraseIdx c) ((w1.setCell ⟨w.heap.size, 1, none⟩ (.slice (some ⟨q, 0, none⟩) (zs.length - 1) cb)).alloc (.cells #[.slice a vs.length ca, .slice (some ⟨q, 0, none⟩) (zs.length - 1) cb] 27)) := by
    have hbl := h1.blocks
    have ts := turn_set w1 w.heap.size 1 (.slice (some ⟨q, 0, none⟩) (zs.length - 1) cb)
    have ha := bn1.set 1 (.slice (some ⟨q, 0, none⟩) (zs.length - 1) cb)
    have hr := bp1.turn ts (.inr (by omega))
    have hh : HeapIn lo hi (w1.setCell ⟨w.heap.size, 1, none⟩ (.slice (some ⟨q, 0, none⟩) (zs.length - 1) cb)) a ca (some ⟨q, 0, none⟩) cb (intVals vs) (intVals (zs.eraseIdx c)) := h1.setNot fun k hk => by have := hbl k hk; omega
    have hb := (Below.refl (w1.setCell ⟨w.heap.size, 1, none⟩ (.slice (some ⟨q, 0, none⟩) (zs.length - 1) cb)).heap.size (w1.setCell ⟨w.heap.size, 1, none⟩ (.slice (some ⟨q, 0, none⟩) (zs.length - 1) cb))).alloc (Nat.le_refl _) (.cells #[.slice a vs.length ca, .slice (some ⟨q, 0, none⟩) (zs.length - 1) cb] 27)
    have hnew := BoxL.new (w1.setCell ⟨w.heap.size, 1, none⟩ (.slice (some ⟨q, 0, none⟩) (zs.length - 1) cb)) [.slice a vs.length ca, .slice (some ⟨q, 0, none⟩) (zs.length - 1) cb] 27
    rw [show (w1.setCell ⟨w.heap.size, 1, none⟩ (.slice (some ⟨q, 0, none⟩) (zs.length - 1) cb)).heap.size = w1.heap.size by simp] at hnew
    exact ⟨ha.below hb, hr.below hb, hnew, hh.below hb, (T1.setNew (Nat.le_refl _)).trans (TurnB.of_below hb), rfl, hl, hs1, hhi⟩
  have HL := Lib.hid hl
  go_wp2
  clear e0 e1 ef bn1 bp1 h1 T1
  generalize ((w1.setCell ⟨w.heap.size, 1, none⟩ (.slice (some ⟨q, 0, none⟩) (zs.length - 1) cb)).alloc (.cells #[.slice a vs.length ca, .slice (some ⟨q, 0, none⟩) (zs.length - 1) cb] 27)) = W4 at *
  generalize w1.heap.size = L at *
  have hm5 : zs.length - 1 ≤ 5 := by omega
  generalize zs.length - 1 = m at *
  go_loopw [22] (fun i wr => ∃ (t : Nat) (us ys : List Int), t ≤ 2 ∧ i = .int .i64 t ∧ ((t = 0 ∧ us = vs ∧ ys = zs.eraseIdx c) ∨ (t = 1 ∧ us = vs.map (lowC c) ∧ ys = zs.eraseIdx c) ∨ (t = 2 ∧ us = vs.map (lowC c) ∧ ys = (zs.eraseIdx c).map (lowC c))) ∧ Wo w S lo hi L q ca cb vs.length m a us ys wr)
    (fun i _ => 2 - (intOf i).toNat)
  case atStart => exact ⟨0, _, _, by omega, rfl, .inl ⟨rfl, rfl, rfl⟩, HW1⟩
  case round =>
    clear HW1
    obtain ⟨t, us, ys, ht, rfl, hcase, hW⟩ := hrel
    have t0 := hW.two.c 0 _ rfl
    have t1 := hW.two.c 1 _ rfl
    rcases hcase with ⟨rfl, hu, hy⟩ | ⟨rfl, hu, hy⟩ | ⟨rfl, hu, hy⟩ <;> rw [hu, hy] at hW <;> clear hu hy us ys
    case' inl =>
      have VB := Lib.hid hbv
      go_wp2
      go_loopw [28] (fun j wr => ∃ (k : Nat), k ≤ vs.length ∧ j = .int .i64 k ∧ Wo w S lo hi L q ca cb vs.length m a (mixL (lowC c) vs k) (zs.eraseIdx c) wr) (fun j _ => vs.length - (intOf j).toNat)
      case atStart => exact ⟨0, Nat.zero_le _, rfl, by rw [mixL_zero]; exact hW⟩
      case round =>
        clear hW
        obtain ⟨k, hk, rfl, hW⟩ := hrel
        by_cases hlt : k < vs.length
        · obtain ⟨g, rfl, hg1, hg2⟩ := hW.heap.v.block_ (by rw [intVals_length, mixL_length]; omega)
          have hcell := hW.heap.v.cellInt k (by rw [mixL_length]; exact hlt)
          rw [mixL_at _ _ hlt] at hcell
          have hbx := VB.out _ (List.getElem_mem hlt)
          have hnx := mixL_next (lowC c) vs hlt
          have hsm := mixL_same (lowC c) vs hlt
          have hfr := hW.heap.v.frozen_ k
          generalize hx : vs[k]'hlt = x at *
          clear hx
          by_cases hgt : (c : Int) < x
          · have hlow : lowC c x = x - 1 := if_pos hgt
            rw [hlow] at hnx
            have hwr : IntKind.i64.wrap (x - 1) = x - 1 := by rw [IntKind.wrap_i64]; omega
            have hW' := hW.setV (k := k) (x - 1) hg1 hg2 (hSa g rfl)
            rw [hnx] at hW'
            have HW := Lib.hid hW'
            clear hW hW' hnx hsm hlow
            go_wp2
            go_roundw
            case rel => exact ⟨k + 1, by omega, by go_num, HW.out⟩
            case measure => simp [intOf]; omega
          · have hlow : lowC c x = x := if_neg hgt
            have hW' := hW
            rw [← hsm hlow] at hW'
            have HW := Lib.hid hW'
            clear hW hW' hnx hsm hlow
            go_wp2
            go_roundw
            case rel => exact ⟨k + 1, by omega, by go_num, HW.out⟩
            case measure => simp [intOf]; omega
        · have hke : k = vs.length := by omega
          have hall : mixL (lowC c) vs k = vs.map (lowC c) := by rw [hke, mixL_all]
          rw [hall] at hW
          clear hall
          have HW := Lib.hid hW
          clear hW
          go_wp2
          go_roundw
          case rel => exact ⟨1, _, _, by omega, by go_num, .inr (.inl ⟨rfl, rfl, rfl⟩), HW.out⟩
          case measure => simp [intOf]
    case' inr.inl =>
      have ZB := Lib.hid hbe
      go_wp2
      go_loopw [28] (fun j wr => ∃ (k : Nat), k ≤ m ∧ j = .int .i64 k ∧ Wo w S lo hi L q ca cb vs.length m a (vs.map (lowC c)) (mixL (lowC c) (zs.eraseIdx c) k) wr) (fun j _ => m - (intOf j).toNat)
      case atStart => exact ⟨0, Nat.zero_le _, rfl, by rw [mixL_zero]; exact hW⟩
      case round =>
        clear hW
        obtain ⟨k, hk, rfl, hW⟩ := hrel
        by_cases hlt : k < m
        · have hlt' : k < (zs.eraseIdx c).length := by rw [HL.out]; exact hlt
          have hcell := hW.heap.z.cellInt k (by rw [mixL_length]; exact hlt')
          rw [mixL_at _ _ hlt'] at hcell
          have hbx := ZB.out _ (List.getElem_mem hlt')
          have hnx := mixL_next (lowC c) (zs.eraseIdx c) hlt'
          have hsm := mixL_same (lowC c) (zs.eraseIdx c) hlt'
          have hfr := hW.heap.z.frozen_ k
          generalize hx : (zs.eraseIdx c)[k]'hlt' = x at *
          clear hx
          by_cases hgt : (c : Int) < x
          · have hlow : lowC c x = x - 1 := if_pos hgt
            rw [hlow] at hnx
            have hwr : IntKind.i64.wrap (x - 1) = x - 1 := by rw [IntKind.wrap_i64]; omega
            have hW' := hW.setZ (k := k) (x - 1) hq1 hq2 hSq
            rw [hnx] at hW'
            have HW := Lib.hid hW'
            clear hW hW' hnx hsm hlow
            go_wp2
            go_roundw
            case rel => exact ⟨k + 1, by omega, by go_num, HW.out⟩
            case measure => simp [intOf]; omega
          · have hlow : lowC c x = x := if_neg hgt
            have hW' := hW
            rw [← hsm hlow] at hW'
            have HW := Lib.hid hW'
            clear hW hW' hnx hsm hlow
            go_wp2
            go_roundw
            case rel => exact ⟨k + 1, by omega, by go_num, HW.out⟩
            case measure => simp [intOf]; omega
        · have hke : k = m := by omega
          have hall : mixL (lowC c) (zs.eraseIdx c) k = (zs.eraseIdx c).map (lowC c) := by rw [hke, ← HL.out, mixL_all]
          rw [hall] at hW
          clear hall
          have HW := Lib.hid hW
          clear hW
          go_wp2
          go_roundw
          case rel => exact ⟨2, _, _, by omega, by go_num, .inr (.inr ⟨rfl, rfl, rfl⟩), HW.out⟩
          case measure => simp [intOf]
    case' inr.inr =>
      have r0 := hW.res.c 0 _ rfl
      have r1 := hW.res.c 1 _ rfl
      have rf := hW.res.f
      have a0 := hW.arg.c 0 _ rfl
      have a1 := hW.arg.c 1 _ rfl
      have hn := hW.hn
      have hm := hW.hm
      have hX := heap_box (Q := w.heap.size + 1) (u := .slice a vs.length ca) (v := .slice (some ⟨q, 0, none⟩) m cb) hW.heap hW.turn hhi (by omega)
      have hbl := hW.heap.blocks
      have hX2 : HeapIn lo hi ((wr.setCell ⟨w.heap.size + 1, 0, none⟩ (.slice a vs.length ca)).setCell ⟨w.heap.size + 1, 1, none⟩ (.slice (some ⟨q, 0, none⟩) m cb)) a ca (some ⟨q, 0, none⟩) cb (intVals (vs.map (lowC c))) (intVals ((zs.eraseIdx c).map (lowC c))) :=
        (hW.heap.setNot (Q := w.heap.size + 1) fun k hk => by have := hbl k hk; omega).setNot (Q := w.heap.size + 1) fun k hk => by have := hbl k hk; omega
      have HX := Lib.hid (And.intro hX2 hX.2)
      clear hX hX2 hW hbl
      go_wp2
      refine bodyPost_ret (v := heV a vs.length ca (some ⟨q, 0, none⟩) m cb) (by simp [results, Tryd.results96, go_sem, r0, r1]) rfl ?_
      exact ⟨a, ca, some ⟨q, 0, none⟩, cb, by rw [hn, hm], HX.out.1, HX.out.2, fun k hk => hk.elim (fun e => by cases a with | none => cases e | some p0 => exact Option.some.inj e ▸ hSa' p0 rfl) (fun e => Option.some.inj e ▸ hSq)⟩

theorem free_null {pa : Nat} {vs zs : List Int} (hp : pa < vs.length) (h : vs[pa] = -1) : freeS pa vs zs = badC 2 := by
  unfold freeS
  rw [getD_cell hp, if_pos h]
theorem free_used {pa c : Nat} {vs zs : List Int} (hp : pa < vs.length) (h : vs[pa] = (c : Int)) (hm : (c : Int) ∈ vs.set pa (-1) ∨ (c : Int) ∈ zs) : freeS pa vs zs = badC 5 := by
  unfold freeS
  rw [getD_cell hp, h, if_neg (by omega), if_pos hm]
theorem free_ok {pa c : Nat} {vs zs : List Int} (hp : pa < vs.length) (h : vs[pa] = (c : Int)) (hm : ¬ ((c : Int) ∈ vs.set pa (-1) ∨ (c : Int) ∈ zs)) : freeS pa vs zs = (0, (vs.set pa (-1)).map (lowC c), (zs.eraseIdx c).map (lowC c)) := by
  unfold freeS
  rw [getD_cell hp, h, if_neg (by omega), if_neg hm, Int.toNat_natCast]

theorem good_range {zs l : List Int} (hz6 : zs.length ≤ 6) (h : goodB zs l = true) : ∀ x ∈ l, -1 ≤ x ∧ x ≤ 6 := fun x hx => by
  rcases goodB_at h hx with rfl | h
  · omega
  · have := isC_iff.1 h
    omega

set_option maxRecDepth 100000 in
set_option maxHeartbeats 1600000 in
theorem implDoFree {lo hi pa : Nat} {a b : Option Addr} {ca cb : Nat} {vs zs : List Int} (y : Int) {w : World} (h : HeapIn lo hi w a ca b cb (intVals vs) (intVals zs)) (hp : pa < vs.length) (hv4 : vs.length ≤ 4) (hz6 : zs.length ≤ 6) (hgv : goodB zs vs = true) (hgz : goodB zs zs = true) :
    Calls Tryd.prog 78 #[heV a vs.length ca b zs.length cb, .int .i64 pa, .int .i64 y] w (Acted lo hi (blocksH a b vs.length ca zs.length cb) (freeS pa vs zs) w) := by
  obtain ⟨g, rfl, hg1, hg2⟩ := h.v.block_ (by rw [intVals_length]; omega)
  have hhi := h.v.1
  have n0 : ¬ w.heap.size = g := by omega
  have n1 : ¬ w.heap.size + 1 = g := by omega
  have n2 : g < w.heap.size := by omega
  have n3 : g < w.heap.size + 1 := by omega
  have hsrc := h.v.cellInt pa hp
  by_cases hn : vs[pa] = -1
  · rw [free_null hp hn]
    rw [hn] at hsrc
    clear hn
    go_enter Tryd.func78, Tryd.ntmps78
    go_wp2
    refine bodyPost_ret (v := .tuple #[heV none 0 0 none 0 0, .int .i64 2]) (by simp [results, Tryd.results78, go_sem]) rfl ?_
    refine acted_bad (TurnB.of_below ?_)
    repeat (first | with_reducible exact Below.refl _ _ | refine Below.drew ?_ | refine Below.alloc ?_ (by simp <;> omega) _ | refine Below.setCell ?_ (by simp <;> omega) _)
  · obtain ⟨c, hc, hcl⟩ := var_cell hp hgv hn
    have hne : ((c : Int) == -1) = false := by simp only [beq_eq_false_iff_ne, ne_eq]; omega
    rw [hc] at hsrc
    have HC := Lib.hid hc
    clear hn hc
    have hfr := h.v.frozen_ pa
    obtain ⟨q, rfl, hq1, hq2⟩ := h.z.block_ (by rw [intVals_length]; omega)
    obtain ⟨W0, hW0, hb0, bn0, bp0⟩ := two_boxL (w.setCell ⟨g, pa, none⟩ (.int .i64 (-1))) [.slice (some ⟨g, 0, none⟩) vs.length ca, .slice (some ⟨q, 0, none⟩) zs.length cb] [.slice none 0 0, .slice none 0 0] 29 29
    replace hW0 : (((w.setCell ⟨g, pa, none⟩ (.int .i64 (-1))).alloc (.cells #[.slice (some ⟨g, 0, none⟩) vs.length ca, .slice (some ⟨q, 0, none⟩) zs.length cb] 29)).alloc (.cells #[.slice none 0 0, .slice none 0 0] 29)) = W0 := hW0
    rw [show (w.setCell ⟨g, pa, none⟩ (.int .i64 (-1))).heap.size = w.heap.size by simp] at bn0 bp0
    have h1 := h.setV (k := pa) (-1)
    have h0 := h1.below hb0
    have T0 := (turnB_at (S := (blocksH (some ⟨g, 0, none⟩) (some ⟨q, 0, none⟩) vs.length ca zs.length cb)) (k := pa) (w := w) (.int .i64 (-1)) hg1 hg2 (.inl rfl)).trans (TurnB.of_below hb0)
    have el : (vs.set pa (-1)).length = vs.length := List.length_set
    have k0 := bn0.c 0 _ rfl
    have k1 := bn0.c 1 _ rfl
    have r0 := bp0.c 0 _ rfl
    have r1 := bp0.c 1 _ rfl
    have rf := bp0.f
    have hs0 := bp0.lt
    obtain ⟨m1, hm1⟩ : ∃ m1, decide ((c : Int) ∈ vs.set pa (-1)) = m1 := ⟨_, rfl⟩
    obtain ⟨m2, hm2⟩ : ∃ m2, decide ((c : Int) ∈ zs) = m2 := ⟨_, rfl⟩
    have HM1 := Lib.hid hm1
    have HM2 := Lib.hid hm2
    have hgv' : goodB zs (vs.set pa (-1)) = true := by
      rw [goodB, List.all_eq_true]
      intro x hx
      rcases List.mem_or_eq_of_mem_set hx with hx | rfl
      · have := goodB_at hgv hx
        simpa using this
      · simp
    have hbv := good_range hz6 hgv'
    have hbz := good_range hz6 hgz
    clear hm1 hm2 h1 h hb0 bn0
    go_enter Tryd.func78, Tryd.ntmps78
    go_wp2_with fail
    clear hW0
    have hcv := libContains (some ⟨g, 0, none⟩) ca (vs.set pa (-1)) (c : Int) W0 (by unfold maxLen; omega) h0.rows.v
    rw [el, HM1.out] at hcv
    refine hcv.mono ?_
    rintro e w1 ⟨rfl, rfl⟩
    cases m1
    case' true =>
      have HR := Lib.hid (free_used (zs := zs) hp HC.out (.inl (of_decide_eq_true HM1.out)))
      go_wp2
      refine bodyPost_ret (v := .tuple #[heV none 0 0 none 0 0, .int .i64 5]) (by simp [results, Tryd.results78, go_sem, r0, r1]) rfl ?_
      rw [HR.out]
      refine acted_bad ?_
      repeat (first | with_reducible exact T0 | refine TurnB.setNew ?_ (by omega))
    case' false =>
      go_wp2_with fail
      refine (libContains (some ⟨q, 0, none⟩) cb zs (c : Int) _ (by unfold maxLen; omega) h0.rows.z).mono ?_
      rw [HM2.out]
      rintro e w2 ⟨rfl, rfl⟩
      cases m2
      case' true =>
        have HR := Lib.hid (free_used hp HC.out (.inr (of_decide_eq_true HM2.out)))
        go_wp2
        refine bodyPost_ret (v := .tuple #[heV none 0 0 none 0 0, .int .i64 5]) (by simp [results, Tryd.results78, go_sem, r0, r1]) rfl ?_
        rw [HR.out]
        refine acted_bad ?_
        repeat (first | with_reducible exact T0 | refine TurnB.setNew ?_ (by omega))
      case' false =>
        have HR := Lib.hid (free_ok hp HC.out (fun hh => hh.elim (of_decide_eq_false HM1.out) (of_decide_eq_false HM2.out)))
        go_wp2_with fail
        have hwo := implWithout (S := (blocksH (some ⟨g, 0, none⟩) (some ⟨q, 0, none⟩) vs.length ca zs.length cb)) h0 hq1 hq2 hcl (by omega) hz6 hbv hbz (.inr rfl) (fun g' e => by have e := Option.some.inj e; injection e with e; subst e; exact .inl rfl) (fun p e => by have e := Option.some.inj e; subst e; exact .inl rfl)
        rw [el] at hwo
        refine hwo.mono ?_
        rintro e w3 ⟨xa, xca, xb, xcb, rfl, h3, t3, hb3⟩
        have bp3 := bp0.turn t3.t (.inr (by omega))
        have q0 := bp3.c 0 _ rfl
        have q1 := bp3.c 1 _ rfl
        have qf := bp3.f
        have hX := heap_box (Q := w.heap.size + 1) (u := .slice xa ((vs.set pa (-1)).map (lowC c)).length xca) (v := .slice xb ((zs.eraseIdx c).map (lowC c)).length xcb) h3 (T0.trans t3) hhi (by omega)
        have HX := Lib.hid hX
        clear hX h3 hwo hcv r0 r1 rf k0 k1 bp0 bp3 h0
        generalize hvv : (vs.set pa (-1)).map (lowC c) = us at *
        generalize hzz : (zs.eraseIdx c).map (lowC c) = ys at *
        clear hvv hzz
        go_wp2
        refine bodyPost_ret (v := .tuple #[heV xa us.length xca xb ys.length xcb, .int .i64 0]) (by simp [results, Tryd.results78, go_sem, q0, q1]) rfl ?_
        rw [HR.out]
        exact acted_of rfl rfl HX.out.1 HX.out.2 (fun k hk => .inl (hb3 k (blocksH_any hk)))
end Go.Proofs.YtpmmjaceehlpiaaDoor
/-
  The program's action that links a cell to another one.
-/
namespace Go.Proofs.YtpmmjaceehlpiaaDoor
open Go Go.RowKit Go.ChangeShapes Go.WideShapes Go.ChangeAt

theorem link_null {pa pb : Nat} {vs zs : List Int} (hp : pa < vs.length) (h : vs[pa] = -1) : linkS pa pb vs zs = badC 2 := by
  unfold linkS
  rw [getD_cell hp, if_pos h]
theorem link_ring {pa pb c : Nat} {vs zs : List Int} (hp : pa < vs.length) (hq : pb < vs.length) (h : vs[pa] = (c : Int)) (hm : (c : Int) ∈ followed zs vs[pb]) : linkS pa pb vs zs = badC 3 := by
  unfold linkS
  rw [getD_cell hp, getD_cell hq, h, if_neg (by omega), if_pos hm]
theorem link_ok {pa pb c : Nat} {vs zs : List Int} (hp : pa < vs.length) (hq : pb < vs.length) (h : vs[pa] = (c : Int)) (hm : ¬ (c : Int) ∈ followed zs vs[pb]) : linkS pa pb vs zs = (0, vs, zs.set c vs[pb]) := by
  unfold linkS
  rw [getD_cell hp, getD_cell hq, h, if_neg (by omega), if_neg hm, Int.toNat_natCast]

set_option maxRecDepth 100000 in
set_option maxHeartbeats 1600000 in
theorem implDoLink {lo hi pa pb : Nat} {a b : Option Addr} {ca cb : Nat} {vs zs : List Int} {w : World} (h : HeapIn lo hi w a ca b cb (intVals vs) (intVals zs)) (hp : pa < vs.length) (hq : pb < vs.length) (hgv : goodB zs vs = true) (hz6 : zs.length ≤ 6) :
    Calls Tryd.prog 77 #[heV a vs.length ca b zs.length cb, .int .i64 pa, .int .i64 pb] w (Acted lo hi (blocksH a b vs.length ca zs.length cb) (linkS pa pb vs zs) w) := by
  obtain ⟨g, rfl, hg1, hg2⟩ := h.v.block_ (by rw [intVals_length]; omega)
  have hhi := h.v.1
  have n0 : ¬ w.heap.size = g := by omega
  have n1 : ¬ w.heap.size + 1 = g := by omega
  have n2 : g < w.heap.size := by omega
  have n3 : g < w.heap.size + 1 := by omega
  have hsrc := h.v.cellInt pa hp
  by_cases hn : vs[pa] = -1
  · rw [link_null hp hn]
    rw [hn] at hsrc
    clear hn
    go_enter Tryd.func77, Tryd.ntmps77
    go_wp2
    refine bodyPost_ret (v := .tuple #[heV none 0 0 none 0 0, .int .i64 2]) (by simp [results, Tryd.results77, go_sem]) rfl ?_
    refine acted_bad (TurnB.of_below ?_)
    repeat (first | with_reducible exact Below.refl _ _ | refine Below.drew ?_ | refine Below.alloc ?_ (by simp <;> omega) _ | refine Below.setCell ?_ (by simp <;> omega) _)
  · obtain ⟨c, hc, hcl⟩ := var_cell hp hgv hn
    have hne : ((c : Int) == -1) = false := by simp only [beq_eq_false_iff_ne, ne_eq]; omega
    rw [hc] at hsrc
    have hsrcb := h.v.cellInt pb hq
    clear hn
    obtain ⟨q, rfl, hq1, hq2⟩ := h.z.block_ (by rw [intVals_length]; omega)
    have HP := Lib.hid hp
    have HQ := Lib.hid hq
    have HC := Lib.hid hc
    obtain ⟨xb, hxb⟩ : ∃ xb, vs[pb]'hq = xb := ⟨_, rfl⟩
    have HXB := Lib.hid hxb
    rw [hxb] at hsrcb
    clear hxb hc
    obtain ⟨W0, hW0, hb0, bn0, bp0⟩ := two_boxL w [.slice (some ⟨g, 0, none⟩) vs.length ca, .slice (some ⟨q, 0, none⟩) zs.length cb] [.slice none 0 0, .slice none 0 0] 29 29
    replace hW0 : ((w.alloc (.cells #[.slice (some ⟨g, 0, none⟩) vs.length ca, .slice (some ⟨q, 0, none⟩) zs.length cb] 29)).alloc (.cells #[.slice none 0 0, .slice none 0 0] 29)) = W0 := hW0
    have c0 := bn0.c 0 _ rfl
    have c1 := bn0.c 1 _ rfl
    have hA : ∀ W, Below W0.heap.size W0 W → BoxL W w.heap.size [.slice (some ⟨g, 0, none⟩) vs.length ca, .slice (some ⟨q, 0, none⟩) zs.length cb] ∧ BoxL W (w.heap.size + 1) [.slice none 0 0, .slice none 0 0] ∧ HeapIn lo hi W (some ⟨g, 0, none⟩) ca (some ⟨q, 0, none⟩) cb (intVals vs) (intVals zs) ∧ TurnB lo hi (blocksH (some ⟨g, 0, none⟩) (some ⟨q, 0, none⟩) vs.length ca zs.length cb) w W := fun W hb =>
      ⟨bn0.below hb, bp0.below hb, h.turn (lo' := hi) (hi' := hi) (Turn.of_below (hb0.trans (hb.mono hb0.size))) (.inl (Nat.le_refl _)), TurnB.of_below (hb0.trans (hb.mono hb0.size))⟩
    have hS : ∀ W, Below W0.heap.size W0 W → (W.cell? ⟨w.heap.size, 0, none⟩ = some (.slice (some ⟨g, 0, none⟩) vs.length ca) ∧ W.cell? ⟨w.heap.size, 1, none⟩ = some (.slice (some ⟨q, 0, none⟩) zs.length cb)) ∧ (W.cell? ⟨g, pa, none⟩ = some (.int .i64 (c : Int)) ∧ W.cell? ⟨g, pb, none⟩ = some (.int .i64 xb)) := fun W hb =>
      ⟨⟨(hA W hb).1.c 0 _ rfl, (hA W hb).1.c 1 _ rfl⟩, by have := (hA W hb).2.2.1.v.cellInt pa HP.out; rw [HC.out] at this; exact this, by have := (hA W hb).2.2.1.v.cellInt pb HQ.out; rw [HXB.out] at this; exact this⟩
    have s0 := (hS W0 (Below.refl _ _)).2.1
    have HA := Lib.hid hA
    have HS := Lib.hid hS
    have hD : Below W0.heap.size W0 W0.drew := Below.drew (Below.refl _ _)
    have hfl : (followed zs xb).length ≤ maxLen := by have := (followed_ok zs xb).len; unfold maxLen; omega
    clear hA hS h bn0 bp0 hb0
    obtain ⟨mb, hmb⟩ : ∃ mb, decide ((c : Int) ∈ followed zs xb) = mb := ⟨_, rfl⟩
    have HMB := Lib.hid hmb
    clear hmb
    go_enter Tryd.func77, Tryd.ntmps77
    go_wp2
    clear hW0
    go_region_held3 (fun W => (W.cell? ⟨w.heap.size, 0, none⟩ = some (.slice (some ⟨g, 0, none⟩) vs.length ca) ∧ W.cell? ⟨w.heap.size, 1, none⟩ = some (.slice (some ⟨q, 0, none⟩) zs.length cb)) ∧ (W.cell? ⟨g, pa, none⟩ = some (.int .i64 (c : Int)) ∧ W.cell? ⟨g, pb, none⟩ = some (.int .i64 xb)))
      (first | exact HS.out _ hD | exact HS.out _ (Below.drew hD) | exact HS.out _ H1)
      (first
        | (go_at_call 94; (with_reducible refine (implFollowed (some ⟨g, 0, none⟩) (some ⟨q, 0, none⟩) vs.length ca cb zs xb _ (by omega) (HA.out _ hD).2.2.1.rows.z).mono ?_); rintro e w1 ⟨fa, fc, rfl, _, hf1, hb1⟩; rw [intVals_length] at hf1 ⊢; have H1 := hD.trans (hb1.mono hD.size))
        | (go_at_call 95; (with_reducible refine (libContains fa fc (followed zs xb) (c : Int) _ hfl (Row.owned hf1)).mono ?_); rw [HMB.out]; rintro e w2 ⟨rfl, rfl⟩))
    obtain ⟨bn1, bp1, h1, T1⟩ := HA.out _ H1
    have hbl := h1.blocks
    have d0 := bn1.c 0 _ rfl
    have d1 := bn1.c 1 _ rfl
    have d2 := bp1.c 0 _ rfl
    have d3 := bp1.c 1 _ rfl
    have df := bp1.f
    have hs1 := bp1.lt
    have k0 := h1.v.cellInt pa hp
    rw [HC.out] at k0
    have k1 := h1.v.cellInt pb hq
    rw [HXB.out] at k1
    have k2 := h1.z.cellInt c hcl
    have k3 := h1.z.frozen_ c
    clear c0 c1 s0 HA HS hD H1 hb1 hf1 hsrc hsrcb hfl bn1 bp1
    cases mb
    case' true =>
      have HR := Lib.hid (link_ring hp hq HC.out (by rw [HXB.out]; exact of_decide_eq_true HMB.out))
      go_wp2
      refine bodyPost_ret (v := .tuple #[heV none 0 0 none 0 0, .int .i64 3]) (by simp [results, Tryd.results77, go_sem, d2, d3]) rfl ?_
      rw [HR.out]
      refine acted_bad ?_
      repeat (first | with_reducible exact T1 | refine TurnB.setNew ?_ (by omega))
    case' false =>
      have hlo := link_ok hp hq HC.out (by rw [HXB.out]; exact of_decide_eq_false HMB.out)
      rw [HXB.out] at hlo
      have HR := Lib.hid hlo
      clear hlo
      go_wp2
      go_region
      all_goals
        go_wp2
        refine bodyPost_ret (v := .tuple #[heV (some ⟨g, 0, none⟩) vs.length ca (some ⟨q, 0, none⟩) zs.length cb, .int .i64 0]) (by simp [results, Tryd.results77, go_sem, d2, d3]) rfl ?_
        rw [HR.out]
        have hX := heap_box (Q := w.heap.size + 1) (u := .slice (some ⟨g, 0, none⟩) vs.length ca) (v := .slice (some ⟨q, 0, none⟩) zs.length cb) (h1.setZ (k := c) xb) (T1.trans (turnB_at (.int .i64 xb) hq1 hq2 (.inr rfl))) hhi (by omega)
        exact acted_of rfl List.length_set hX.1.draws hX.2.draws
end Go.Proofs.YtpmmjaceehlpiaaDoor
/-
  The program's tests of a heap; the actions that they make.
-/
namespace Go.Proofs.YtpmmjaceehlpiaaDoor
open Go Go.RowKit Go.ChangeShapes Go.WideShapes Go.ChangeAt Go.Sort

/-- A question about a heap. -/
theorem implIsNull {pa : Nat} {a b : Option Addr} {ca cb : Nat} {vs zs : List Int} (y : Int) {w : World} (h : HeapAt w a b vs zs) (hp : pa < vs.length) :
    Calls Tryd.prog 80 #[heV a vs.length ca b zs.length cb, .int .i64 pa, .int .i64 y] w (GaveX (.bool (decide (vs.getD pa (-1) = -1))) w) := by
  rw [getD_cell hp]
  obtain ⟨g, o, rfl, hg, hc⟩ := h.v pa _ (intVals_at vs pa hp)
  have n0 : ¬ w.heap.size = g := by omega
  go_enter Tryd.func80, Tryd.ntmps80
  go_wp2
  go_ret
  exact ⟨rfl, (Below.refl _ _).alloc (Nat.le_refl _) _⟩
theorem implAreSame {pa pb : Nat} {a b : Option Addr} {ca cb : Nat} {vs zs : List Int} {w : World} (h : HeapAt w a b vs zs) (hp : pa < vs.length) (hq : pb < vs.length) :
    Calls Tryd.prog 81 #[heV a vs.length ca b zs.length cb, .int .i64 pa, .int .i64 pb] w (GaveX (.bool (decide (vs.getD pa (-1) = vs.getD pb (-1)))) w) := by
  rw [getD_cell hp, getD_cell hq]
  obtain ⟨g, o, rfl, hg, hc⟩ := h.v pa _ (intVals_at vs pa hp)
  obtain ⟨g', o', e, hg', hc'⟩ := h.v pb _ (intVals_at vs pb hq)
  obtain ⟨rfl, rfl⟩ : g = g' ∧ o = o' := by
    injection e with e
    injection e with e1 e2
    exact ⟨e1, e2⟩
  have n0 : ¬ w.heap.size = g := by omega
  go_enter Tryd.func81, Tryd.ntmps81
  go_wp2
  go_region
  all_goals
    go_wp2
    go_ret
    exact ⟨rfl, ((Below.refl _ _).alloc (Nat.le_refl _) _).drew⟩

/-- The cells of a test's action: the question, what is wanted. -/
structure CondAt (w : World) (c d : Nat) (f : FuncId) (t : Bool) : Prop where
  q : w.cell? ⟨c, 0, none⟩ = some (.func (.func f) #[] #[])
  t : w.cell? ⟨d, 0, none⟩ = some (.bool t)
  lq : c < w.heap.size
  lt : d < w.heap.size
set_option maxHeartbeats 800000 in
theorem implTestNull {lo hi : Nat} {a b : Option Addr} {ca cb : Nat} {vs zs : List Int} (x y : Int) {c d : Nat} {t r : Bool} {w : World} (h : HeapIn lo hi w a ca b cb (intVals vs) (intVals zs)) (hc : CondAt w c d 80 t)
    (hf : ∀ W, HeapAt W a b vs zs → Calls Tryd.prog 80 #[heV a vs.length ca b zs.length cb, .int .i64 x, .int .i64 y] W (GaveX (.bool r) W)) :
    Calls Tryd.prog 97 #[heV a vs.length ca b zs.length cb, .int .i64 x, .int .i64 y, .pointer (some ⟨c, 0, none⟩), .pointer (some ⟨d, 0, none⟩)] w (Acted lo hi (blocksH a b vs.length ca zs.length cb) (if r = t then (0, vs, zs) else badC 1) w) := by
  obtain ⟨q0, t0, lq, lt⟩ := hc
  have hr := h.rows
  by_cases hrt : r = t
  · rw [if_pos hrt]
    subst hrt
    have hrr : (r != r) = false := by simp
    go_enter Tryd.func97, Tryd.ntmps97
    go_wp2
    obtain ⟨W0, hW0, hb0, bn0, bp0⟩ := two_boxL w [.slice a vs.length ca, .slice b zs.length cb] [.slice none 0 0, .slice none 0 0] 29 29
    rw [show ((w.alloc (.cells #[.slice a vs.length ca, .slice b zs.length cb] 29)).alloc (.cells #[.slice none 0 0, .slice none 0 0] 29)) = W0 from hW0]
    clear hW0
    have c0 := fun d os => cell_regrown (bn0.c 0 _ rfl) d os
    have c1 := fun d os => cell_regrown (bn0.c 1 _ rfl) d os
    have c2 := fun d os => cell_regrown ((hb0.cell (p := ⟨c, 0, none⟩) lq).trans q0) d os
    have c3 := fun e os => cell_regrown ((hb0.cell (p := ⟨d, 0, none⟩) lt).trans t0) e os
    have hrow := hr.below hb0 (Nat.le_refl _)
    have HC := Lib.hid (show ∀ e os, Calls Tryd.prog 80 #[heV a vs.length ca b zs.length cb, .int .i64 x, .int .i64 y] (Go.Sort.grow (redrawn W0 e) os) (GaveX (.bool r) (Go.Sort.grow (redrawn W0 e) os)) from fun e os => hf _ (hrow.again e os))
    clear hf q0 t0
    refine wp_region_quiet_below (by kernel_rfl) (by kernel_rfl) ?_
    repeat (go_big_quiet_step (first | (go_at_call 80; with_reducible exact at_again (HC.out _ _))))
    refine wpQuiet_nil ?_
    rintro w1 ⟨⟨e, os⟩, rfl⟩
    have hb1 := below_regrown W0 e os
    have T1 := TurnB.of_below (lo := lo) (hi := hi) (S := (blocksH a b vs.length ca zs.length cb)) (hb0.trans (hb1.mono hb0.size))
    have bn1 := bn0.below hb1
    have bp1 := bp0.below hb1
    have h1 := h.turn (lo' := hi) (hi' := hi) (Turn.of_below (hb0.trans (hb1.mono hb0.size))) (.inl (Nat.le_refl _))
    have hbl := h.blocks
    have hhi := h.v.1
    clear c0 c1 c2 c3 HC bn0 bp0
    generalize Go.Sort.grow (redrawn W0 e) os = W1 at *
    have d0 := bn1.c 0 _ rfl
    have d1 := bn1.c 1 _ rfl
    have d2 := bp1.c 0 _ rfl
    have d3 := bp1.c 1 _ rfl
    have df := bp1.f
    have hs1 := bp1.lt
    go_wp2
    refine bodyPost_ret (v := .tuple #[heV a vs.length ca b zs.length cb, .int .i64 0]) (by simp [results, Tryd.results97, go_sem, d2, d3]) rfl ?_
    refine acted_of rfl rfl ?_ ?_
    · have hs : ((W1.setCell ⟨w.heap.size + 1, 0, none⟩ (.slice a vs.length ca)).setCell ⟨w.heap.size + 1, 1, none⟩ (.slice b zs.length cb)).heap.size = W1.heap.size := by simp
      rw [hs]
      exact ((h1.setNot (Q := w.heap.size + 1) fun k hk => by have := hbl k hk; omega).setNot (Q := w.heap.size + 1) fun k hk => by have := hbl k hk; omega).mono (Nat.le_refl _) (by have := h1.v.1; omega) (by simp)
    · repeat (first | with_reducible exact T1 | refine TurnB.setNew ?_ (by omega))
  · rw [if_neg hrt]
    have hrr : (r == t) = false := by simpa using hrt
    go_enter Tryd.func97, Tryd.ntmps97
    go_wp2
    obtain ⟨W0, hW0, hb0, bn0, bp0⟩ := two_boxL w [.slice a vs.length ca, .slice b zs.length cb] [.slice none 0 0, .slice none 0 0] 29 29
    rw [show ((w.alloc (.cells #[.slice a vs.length ca, .slice b zs.length cb] 29)).alloc (.cells #[.slice none 0 0, .slice none 0 0] 29)) = W0 from hW0]
    clear hW0
    have c0 := fun d os => cell_regrown (bn0.c 0 _ rfl) d os
    have c1 := fun d os => cell_regrown (bn0.c 1 _ rfl) d os
    have c2 := fun d os => cell_regrown ((hb0.cell (p := ⟨c, 0, none⟩) lq).trans q0) d os
    have c3 := fun e os => cell_regrown ((hb0.cell (p := ⟨d, 0, none⟩) lt).trans t0) e os
    have hrow := hr.below hb0 (Nat.le_refl _)
    have HC := Lib.hid (show ∀ e os, Calls Tryd.prog 80 #[heV a vs.length ca b zs.length cb, .int .i64 x, .int .i64 y] (Go.Sort.grow (redrawn W0 e) os) (GaveX (.bool r) (Go.Sort.grow (redrawn W0 e) os)) from fun e os => hf _ (hrow.again e os))
    clear hf q0 t0
    refine wp_region_quiet_below (by kernel_rfl) (by kernel_rfl) ?_
    repeat (go_big_quiet_step (first | (go_at_call 80; with_reducible exact at_again (HC.out _ _))))
    refine wpQuiet_nil ?_
    rintro w1 ⟨⟨e, os⟩, rfl⟩
    have hb1 := below_regrown W0 e os
    have T1 := TurnB.of_below (lo := lo) (hi := hi) (S := (blocksH a b vs.length ca zs.length cb)) (hb0.trans (hb1.mono hb0.size))
    have bn1 := bn0.below hb1
    have bp1 := bp0.below hb1
    have h1 := h.turn (lo' := hi) (hi' := hi) (Turn.of_below (hb0.trans (hb1.mono hb0.size))) (.inl (Nat.le_refl _))
    have hbl := h.blocks
    have hhi := h.v.1
    clear c0 c1 c2 c3 HC bn0 bp0
    generalize Go.Sort.grow (redrawn W0 e) os = W1 at *
    have d0 := bn1.c 0 _ rfl
    have d1 := bn1.c 1 _ rfl
    have d2 := bp1.c 0 _ rfl
    have d3 := bp1.c 1 _ rfl
    have df := bp1.f
    have hs1 := bp1.lt
    go_wp2
    refine bodyPost_ret (v := .tuple #[heV none 0 0 none 0 0, .int .i64 1]) (by simp [results, Tryd.results97, go_sem, d2, d3]) rfl ?_
    refine acted_bad ?_
    repeat (first | with_reducible exact T1 | refine TurnB.setNew ?_ (by omega))
set_option maxHeartbeats 800000 in
theorem implTestSame {lo hi : Nat} {a b : Option Addr} {ca cb : Nat} {vs zs : List Int} (x y : Int) {c d : Nat} {t r : Bool} {w : World} (h : HeapIn lo hi w a ca b cb (intVals vs) (intVals zs)) (hc : CondAt w c d 81 t)
    (hf : ∀ W, HeapAt W a b vs zs → Calls Tryd.prog 81 #[heV a vs.length ca b zs.length cb, .int .i64 x, .int .i64 y] W (GaveX (.bool r) W)) :
    Calls Tryd.prog 97 #[heV a vs.length ca b zs.length cb, .int .i64 x, .int .i64 y, .pointer (some ⟨c, 0, none⟩), .pointer (some ⟨d, 0, none⟩)] w (Acted lo hi (blocksH a b vs.length ca zs.length cb) (if r = t then (0, vs, zs) else badC 1) w) := by
  obtain ⟨q0, t0, lq, lt⟩ := hc
  have hr := h.rows
  by_cases hrt : r = t
  · rw [if_pos hrt]
    subst hrt
    have hrr : (r != r) = false := by simp
    go_enter Tryd.func97, Tryd.ntmps97
    go_wp2
    obtain ⟨W0, hW0, hb0, bn0, bp0⟩ := two_boxL w [.slice a vs.length ca, .slice b zs.length cb] [.slice none 0 0, .slice none 0 0] 29 29
    rw [show ((w.alloc (.cells #[.slice a vs.length ca, .slice b zs.length cb] 29)).alloc (.cells #[.slice none 0 0, .slice none 0 0] 29)) = W0 from hW0]
    clear hW0
    have c0 := fun d os => cell_regrown (bn0.c 0 _ rfl) d os
    have c1 := fun d os => cell_regrown (bn0.c 1 _ rfl) d os
    have c2 := fun d os => cell_regrown ((hb0.cell (p := ⟨c, 0, none⟩) lq).trans q0) d os
    have c3 := fun e os => cell_regrown ((hb0.cell (p := ⟨d, 0, none⟩) lt).trans t0) e os
    have hrow := hr.below hb0 (Nat.le_refl _)
    have HC := Lib.hid (show ∀ e os, Calls Tryd.prog 81 #[heV a vs.length ca b zs.length cb, .int .i64 x, .int .i64 y] (Go.Sort.grow (redrawn W0 e) os) (GaveX (.bool r) (Go.Sort.grow (redrawn W0 e) os)) from fun e os => hf _ (hrow.again e os))
    clear hf q0 t0
    refine wp_region_quiet_below (by kernel_rfl) (by kernel_rfl) ?_
    repeat (go_big_quiet_step (first | (go_at_call 81; with_reducible exact at_again (HC.out _ _))))
    refine wpQuiet_nil ?_
    rintro w1 ⟨⟨e, os⟩, rfl⟩
    have hb1 := below_regrown W0 e os
    have T1 := TurnB.of_below (lo := lo) (hi := hi) (S := (blocksH a b vs.length ca zs.length cb)) (hb0.trans (hb1.mono hb0.size))
    have bn1 := bn0.below hb1
    have bp1 := bp0.below hb1
    have h1 := h.turn (lo' := hi) (hi' := hi) (Turn.of_below (hb0.trans (hb1.mono hb0.size))) (.inl (Nat.le_refl _))
    have hbl := h.blocks
    have hhi := h.v.1
    clear c0 c1 c2 c3 HC bn0 bp0
    generalize Go.Sort.grow (redrawn W0 e) os = W1 at *
    have d0 := bn1.c 0 _ rfl
    have d1 := bn1.c 1 _ rfl
    have d2 := bp1.c 0 _ rfl
    have d3 := bp1.c 1 _ rfl
    have df := bp1.f
    have hs1 := bp1.lt
    go_wp2
    refine bodyPost_ret (v := .tuple #[heV a vs.length ca b zs.length cb, .int .i64 0]) (by simp [results, Tryd.results97, go_sem, d2, d3]) rfl ?_
    refine acted_of rfl rfl ?_ ?_
    · have hs : ((W1.setCell ⟨w.heap.size + 1, 0, none⟩ (.slice a vs.length ca)).setCell ⟨w.heap.size + 1, 1, none⟩ (.slice b zs.length cb)).heap.size = W1.heap.size := by simp
      rw [hs]
      exact ((h1.setNot (Q := w.heap.size + 1) fun k hk => by have := hbl k hk; omega).setNot (Q := w.heap.size + 1) fun k hk => by have := hbl k hk; omega).mono (Nat.le_refl _) (by have := h1.v.1; omega) (by simp)
    · repeat (first | with_reducible exact T1 | refine TurnB.setNew ?_ (by omega))
  · rw [if_neg hrt]
    have hrr : (r == t) = false := by simpa using hrt
    go_enter Tryd.func97, Tryd.ntmps97
    go_wp2
    obtain ⟨W0, hW0, hb0, bn0, bp0⟩ := two_boxL w [.slice a vs.length ca, .slice b zs.length cb] [.slice none 0 0, .slice none 0 0] 29 29
    rw [show ((w.alloc (.cells #[.slice a vs.length ca, .slice b zs.length cb] 29)).alloc (.cells #[.slice none 0 0, .slice none 0 0] 29)) = W0 from hW0]
    clear hW0
    have c0 := fun d os => cell_regrown (bn0.c 0 _ rfl) d os
    have c1 := fun d os => cell_regrown (bn0.c 1 _ rfl) d os
    have c2 := fun d os => cell_regrown ((hb0.cell (p := ⟨c, 0, none⟩) lq).trans q0) d os
    have c3 := fun e os => cell_regrown ((hb0.cell (p := ⟨d, 0, none⟩) lt).trans t0) e os
    have hrow := hr.below hb0 (Nat.le_refl _)
    have HC := Lib.hid (show ∀ e os, Calls Tryd.prog 81 #[heV a vs.length ca b zs.length cb, .int .i64 x, .int .i64 y] (Go.Sort.grow (redrawn W0 e) os) (GaveX (.bool r) (Go.Sort.grow (redrawn W0 e) os)) from fun e os => hf _ (hrow.again e os))
    clear hf q0 t0
    refine wp_region_quiet_below (by kernel_rfl) (by kernel_rfl) ?_
    repeat (go_big_quiet_step (first | (go_at_call 81; with_reducible exact at_again (HC.out _ _))))
    refine wpQuiet_nil ?_
    rintro w1 ⟨⟨e, os⟩, rfl⟩
    have hb1 := below_regrown W0 e os
    have T1 := TurnB.of_below (lo := lo) (hi := hi) (S := (blocksH a b vs.length ca zs.length cb)) (hb0.trans (hb1.mono hb0.size))
    have bn1 := bn0.below hb1
    have bp1 := bp0.below hb1
    have h1 := h.turn (lo' := hi) (hi' := hi) (Turn.of_below (hb0.trans (hb1.mono hb0.size))) (.inl (Nat.le_refl _))
    have hbl := h.blocks
    have hhi := h.v.1
    clear c0 c1 c2 c3 HC bn0 bp0
    generalize Go.Sort.grow (redrawn W0 e) os = W1 at *
    have d0 := bn1.c 0 _ rfl
    have d1 := bn1.c 1 _ rfl
    have d2 := bp1.c 0 _ rfl
    have d3 := bp1.c 1 _ rfl
    have df := bp1.f
    have hs1 := bp1.lt
    go_wp2
    refine bodyPost_ret (v := .tuple #[heV none 0 0 none 0 0, .int .i64 1]) (by simp [results, Tryd.results97, go_sem, d2, d3]) rfl ?_
    refine acted_bad ?_
    repeat (first | with_reducible exact T1 | refine TurnB.setNew ?_ (by omega))
end Go.Proofs.YtpmmjaceehlpiaaDoor
