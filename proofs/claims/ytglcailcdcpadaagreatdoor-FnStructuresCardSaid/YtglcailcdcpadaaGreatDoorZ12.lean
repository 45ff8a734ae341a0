/-
  The model's walks over a heap: following, the order of the cells, no way round, leak.
-/
import Derived.Deep.RegionHeld3
import Derived.Maps.AppendAt
import Derived.Test.YtglcailcdcpadaaGreatDoorZ10
import Derived.Test.YtglcailcdcpadaaGreatDoorZ09
import Derived.Test.YtglcailcdcpadaaGreatDoorZ07
namespace Go.Proofs.YtglcailcdcpadaaGreatDoor
open Go Go.RowKit Go.Sort

theorem own_shape' {w : World} {base e size n : Nat} {v : Value} {xs : List Value} (h : w.ownsRow base e size v n xs) : ∃ a c, v = .slice a n c ∧ n ≤ c := by
  rcases h.2 with ⟨rfl, rfl⟩ | ⟨g, cap, cur, rfl, _, _, hc, _⟩
  · exact ⟨_, _, rfl, Nat.le_refl _⟩
  · exact ⟨_, _, rfl, hc⟩
def sliceLen : Value → Nat
  | .slice _ n _ => n
  | _ => 0
theorem in_isC (zs : List Int) (c : Int) : (decide (0 ≤ c) && decide (c ≤ (zs.length : Int) - 1)) = isC zs c := by
  by_cases h0 : 0 ≤ c <;> by_cases h1 : c < (zs.length : Int)
  all_goals simp [isC, h0, h1]
  all_goals omega

set_option maxRecDepth 100000 in
set_option maxHeartbeats 1600000 in
theorem specFollowed (a b : Option Addr) (na ca cb : Nat) (zs : List Int) (c : Int) (w : World) (hz : zs.length ≤ 1048576) (hrow : Row w w.heap.size b (intVals zs)) :
    Calls Tryz.prog 129 #[.agg #[.slice a na ca, .slice b zs.length cb], .int .i64 c] w (Built w.heap.size 3 (intVals (followed zs c)) w) := by
  obtain ⟨i0, hi, hz0, hz1, hz2⟩ := info_parts numInfo
  go_enter Tryz.func129, Tryz.ntmps129
  go_wp2
  obtain ⟨W0, hW0, hb0, hs0, hA0⟩ := one_box2 w (.slice a na ca) (.slice b zs.length cb) 121
  rw [hW0]
  go_loopw [1, 5] (fun v l wr => ∃ (cc : Int) (o : List Int) (n : Nat), v = .int .i64 cc ∧ Going zs [] c o cc n ∧ wr.ownsRow W0.heap.size 3 1 l o.length (intVals o) ∧ Below W0.heap.size W0 wr) (fun _ l _ => zs.length - sliceLen l)
  case atStart => exact ⟨c, [], zs.length, rfl, Going.start OrdOk.nil_ OrdEnd.nil_.closed, (by simpa [← hW0, intVals] using World.ownsRow_made (e := 3) (size := 1) W0 #[] 0 (Nat.le_refl _) (Nat.zero_le _) rfl), (Below.refl _ _).alloc (Nat.le_refl _) _⟩
  case round =>
    obtain ⟨cc, o, n, rfl, hgo, hown, hb⟩ := hrel
    obtain ⟨la, lc, rfl, hlc⟩ := own_shape' hown
    have hBr := hb0.trans (hb.mono hb0.size)
    obtain ⟨c0, c1⟩ := hA0.keep hs0 hb
    have hlen := hgo.ok.len
    have hnd := hgo.ok.nodup
    have Hgo := Lib.hid hgo
    have Hown := Lib.hid hown
    clear hgo hown
    by_cases h1 : cc = -1
    · have hst := Hgo.out.stop (.inl (by rw [h1]; exact isC_minus _))
      have hbe : badEnd zs zs.length c = false := by rw [← hst.2.2 rfl]; simp [h1]
      have hf := Lib.hid (show followed zs c = o by rw [followed, hbe]; exact hst.1)
      have h1b : (cc != -1) = false := by simpa using h1
      clear hst hbe h1
      go_wp2
      go_ret
      rw [hf.out]
      exact built_end (intVals_length _).symm (own_base Hown.out hb0.size) hBr
    · have h1b : (cc != -1) = true := by simpa using h1
      have hro := Row.owned Hown.out
      go_wp2_with fail
      refine (specHas la lc o cc _ (by omega) hro).mono ?_
      rintro e w1 ⟨rfl, hb1⟩
      have hB1 := hb.trans (hb1.mono hb.size)
      have hown1 := own_keeps Hown.out hb1
      clear c0 c1
      obtain ⟨c0, c1⟩ := hA0.keep hs0 hB1
      by_cases hm : cc ∈ o
      · have hst := Hgo.out.stop (.inr hm)
        have hbe : badEnd zs zs.length c = false := by rw [← hst.2.2 rfl, Hgo.out.ok.cells cc hm]; simp
        have hf := Lib.hid (show followed zs c = o by rw [followed, hbe]; exact hst.1)
        have hmd := decide_eq_true hm
        clear hst hbe h1
        go_wp2
        go_ret
        rw [hf.out]
        exact built_end (intVals_length _).symm (own_base hown1 hb0.size) (hb0.trans (hB1.mono hb0.size))
      · have hmd := decide_eq_false hm
        have hlz : ((zs.length : Int) - 1) ≤ 1048575 := by omega
        have Hown1 := Lib.hid hown1
        clear hown1
        go_wp2_with fail
        refine (specIn cc 0 ((zs.length : Int) - 1) _).mono ?_
        rintro e w2 ⟨rfl, rfl⟩
        rw [in_isC]
        cases hc : isC zs cc with
        | false =>
          have hst := Hgo.out.stop (.inl hc)
          have hbe : badEnd zs zs.length c = true := by rw [← hst.2.2 rfl]; simp [h1, hc]
          have hf := Lib.hid (show followed zs c = [] by rw [followed, hbe]; rfl)
          clear hst hbe h1 hm
          go_wp2
          go_ret
          rw [hf.out]
          refine built_end (n := 0) rfl (World.ownsRow_made w1 #[] 0 ?_ (Nat.zero_le _) rfl) (((hb0.trans (hB1.mono hb0.size))).alloc ?_ _)
          · exact Nat.le_trans hb0.size hB1.size
          · exact Nat.le_trans hb0.size hB1.size
        | true =>
          obtain ⟨m, rfl, hgo'⟩ := Hgo.out.step hc hm
          have hroom := Hgo.out.ok.room hc hm
          obtain ⟨k, rfl, hk⟩ := isC_nat hc
          have hnx := nextC_at hk
          obtain ⟨bz, oz, rfl, hbz, hcz⟩ := hrow k _ (intVals_at zs k hk)
          have Hnx := Lib.hid hnx
          have Hgo' := Lib.hid hgo'
          clear hnx hgo' Hgo h1 hm
          go_wp2_with (first
            | (at_builtin; refine wpList_append_own _ rfl (.tmp 23) (.tmp 25) 25 rfl W0.heap.size 3 i0 (.int .i64 0) 1 8 Tryz.underlying25 hi hz0 hz1 hz2 rfl (by decide) _ o.length _ rfl (Hown1.out.alloc _) ⟨w1.heap.size, 0, none⟩ 1 1 [.int .i64 (k : Int)] rfl rfl (oneCell_at _) (oneCell_int _) (by unfold maxLen; omega) (by omega) (by have := hB1.size; simp; omega) ?_; intro v2 w2 hown2 hg2 _; have hb2 := own_below (Hown1.out.alloc _) hg2 (by have := hB1.size; simp; omega) (hB1.alloc hB1.size _); clear hg2; obtain ⟨d0, d1⟩ := hA0.keep hs0 hb2; have hcz2 := ((hb0.trans (hb2.mono hb0.size)).cell (p := ⟨bz, oz + k, none⟩) hbz).trans hcz)
            | fail)
          obtain ⟨va, vc, rfl, hvc⟩ := own_shape' hown2
          go_roundw
          case rel => exact ⟨_, _, m, rfl, (by rw [← Hnx.out]; exact Hgo'.out), (by rw [intVals_snoc, List.length_append, List.length_singleton]; exact hown2), hb2⟩
          case measure => simp [sliceLen]; omega

theorem take_step {α : Type} (l : List α) (k : Nat) (h : k < l.length) : l.take (k + 1) = l.take k ++ [l[k]] := take_next l k h
theorem addAll_one (o : List Int) (x : Int) : addAll o [x] = if x ∈ o then o else o ++ [x] := rfl

set_option maxRecDepth 100000 in
set_option maxHeartbeats 3200000 in
theorem specOrder (a b : Option Addr) (ca cb : Nat) (vs zs : List Int) (w : World) (hv : vs.length ≤ 1048576) (hz : zs.length ≤ 1048576) (h : HeapAt w a b vs zs) :
    Calls Tryz.prog 148 #[heV a vs.length ca b zs.length cb] w (Built w.heap.size 3 (intVals (orderS zs [] vs)) w) := by
  obtain ⟨i0, hi, hz0, hz1, hz2⟩ := info_parts numInfo
  have hat : ∀ W, Below w.heap.size w W → HeapAt W a b vs zs := fun W hb => h.below hb (Nat.le_refl _)
  have HAT := Lib.hid hat
  clear hat h
  go_enter Tryz.func148, Tryz.ntmps148
  go_wp2
  obtain ⟨W0, hW0, hb0, hs0, hA0⟩ := one_box2 w (.slice a vs.length ca) (.slice b zs.length cb) 121
  rw [hW0]
  go_loopw [3, 4] (fun l i wr => ∃ k : Nat, k ≤ vs.length ∧ i = .int .i64 k ∧ wr.ownsRow W0.heap.size 3 1 l (orderS zs [] (vs.take k)).length (intVals (orderS zs [] (vs.take k))) ∧ Below W0.heap.size W0 wr) (fun _ i _ => vs.length - (intOf i).toNat)
  case atStart => exact ⟨0, Nat.zero_le _, rfl, (by simpa [← hW0, intVals, orderS] using World.ownsRow_made (e := 3) (size := 1) W0 #[] 0 (Nat.le_refl _) (Nat.zero_le _) rfl), (Below.refl _ _).alloc (Nat.le_refl _) _⟩
  case round =>
    clear hW0
    obtain ⟨k, hk, rfl, hown, hb⟩ := hrel
    obtain ⟨la, lc, rfl, hlc⟩ := own_shape' hown
    have hBr := hb0.trans (hb.mono hb0.size)
    obtain ⟨c0, c1⟩ := hA0.keep hs0 hb
    have hsr : w.heap.size < wr.heap.size := Nat.lt_of_lt_of_le hs0 hb.size
    have Hown := Lib.hid hown
    clear hown
    by_cases hlt : k < vs.length
    · have htk : orderS zs [] (vs.take (k + 1)) = addAll (orderS zs [] (vs.take k)) (followed zs vs[k]) := by rw [take_step vs k hlt, orderS_snoc]
      have hrow := (HAT.out _ hBr).v
      obtain ⟨bv, ov, rfl, hbv, hcv⟩ := hrow k _ (intVals_at vs k hlt)
      have hok : OrdOk zs (orderS zs [] (vs.take k)) := orderS_ok OrdOk.nil_
      have hS : ∀ W, Below wr.heap.size wr W → (W.cell? ⟨w.heap.size, 0, none⟩ = some (.slice (some ⟨bv, ov, none⟩) vs.length ca) ∧ W.cell? ⟨w.heap.size, 1, none⟩ = some (.slice b zs.length cb)) ∧ W.cell? ⟨bv, ov + k, none⟩ = some (.int .i64 vs[k]) := fun W hB =>
        ⟨Box2.keep ⟨c0, c1⟩ hsr hB, (hB.cell (p := ⟨bv, ov + k, none⟩) hbv).trans hcv⟩
      have hD : Below wr.heap.size wr wr.drew := Below.drew (Below.refl _ _)
      generalize vs[k] = x at *
      have HTK := Lib.hid htk
      have HOK := Lib.hid hok
      clear htk hok hrow
      generalize hO : orderS zs [] (vs.take k) = O at *
      clear hO c0 c1 hcv
      have hOl := HOK.out.len
      obtain ⟨⟨c0, c1⟩, cv⟩ := hS _ (Below.refl _ _)
      go_wp2
      clear c0 c1 cv
      go_region_held3 (fun W => (W.cell? ⟨w.heap.size, 0, none⟩ = some (.slice (some ⟨bv, ov, none⟩) vs.length ca) ∧ W.cell? ⟨w.heap.size, 1, none⟩ = some (.slice b zs.length cb)) ∧ W.cell? ⟨bv, ov + k, none⟩ = some (.int .i64 x))
        (first | exact hS _ hD | exact hS _ (Below.drew hD) | exact hS _ H1)
        (first
          | (go_at_call 129; (with_reducible refine (specFollowed _ b _ ca cb zs x _ hz (HAT.out _ (hBr.trans (hD.mono hBr.size))).z).mono ?_); rintro e w1 ⟨fa, fc, rfl, hfc, hf1, hb1⟩; have H1 := hD.trans (hb1.mono hD.size)))
      have hfl := (followed_ok zs x).len
      rw [intVals_length] at *
      have hRM : wr.heap.size ≤ w1.heap.size := H1.size
      have hF1 : RowIn wr.heap.size w1.heap.size w1 fa (intVals (followed zs x)) := (OwnIn.of hf1).rowIn
      have hown1 := own_keeps Hown.out H1
      have hB1 := hb.trans (H1.mono hb.size)
      have hin1 : ∀ j, (Value.slice la O.length lc).ownBlock = some j → j < wr.heap.size ∨ w1.heap.size ≤ j := fun j hj => .inl (Hown.out.lt j hj).2
      clear hf1 hb1 Hown hb hBr
      generalize wr.heap.size = R at *
      generalize hM : w1.heap.size = M at *
      go_wp2
      go_loopw [3, 6] (fun l i wq => ∃ j : Nat, j ≤ (followed zs x).length ∧ i = .int .i64 j ∧ wq.ownsRow W0.heap.size 3 1 l (addAll O ((followed zs x).take j)).length (intVals (addAll O ((followed zs x).take j))) ∧ (∀ q, l.ownBlock = some q → q < R ∨ M ≤ q) ∧ RowIn R M wq fa (intVals (followed zs x)) ∧ Below W0.heap.size W0 wq)
        (fun _ i _ => (followed zs x).length - (intOf i).toNat)
      case atStart => exact ⟨0, Nat.zero_le _, rfl, hown1, hin1, hF1, hB1⟩
      case round =>
        obtain ⟨j, hj, rfl, hown2, hin2, hF2, hB2⟩ := hrel
        obtain ⟨ma, mc, rfl, hmc⟩ := own_shape' hown2
        have hok2 : OrdOk zs (addAll O ((followed zs x).take j)) := HOK.out.addAll fun y hy => (followed_ok zs x).cells y (List.mem_of_mem_take hy)
        have hol2 := hok2.len
        have Hown2 := Lib.hid hown2
        have HF2 := Lib.hid hF2
        have Hin2 := Lib.hid hin2
        clear hown2 hF2 hin2 hok2
        by_cases hlt2 : j < (followed zs x).length
        · have htk2 : addAll O ((followed zs x).take (j + 1)) = addAll (addAll O ((followed zs x).take j)) [(followed zs x)[j]] := by rw [take_step _ j hlt2, addAll_append]
          rw [addAll_one] at htk2
          have hFj := HF2.out.row j _ (intVals_at _ j hlt2)
          obtain ⟨bf, of_, rfl, hbf, hcf⟩ := hFj
          generalize (followed zs x)[j] = y at *
          have HTK2 := Lib.hid htk2
          clear htk2
          generalize hO2 : addAll O ((followed zs x).take j) = O2 at *
          clear hO2
          go_wp2_with fail
          refine (specHas ma mc O2 y _ (by omega) (Row.owned Hown2.out)).mono ?_
          rintro e w3 ⟨rfl, hb3⟩
          have hB3 := hB2.trans (hb3.mono hB2.size)
          have hown3 := own_keeps Hown2.out hb3
          have hF3 := HF2.out.below hb3
          have hcf3 := (hb3.cell (p := ⟨bf, of_ + j, none⟩) hbf).trans hcf
          clear hcf
          by_cases hm : y ∈ O2
          · have hmd := decide_eq_true hm
            have he := HTK2.out
            rw [if_pos hm] at he
            have He := Lib.hid he
            clear he hm
            go_wp2
            go_roundw
            case rel => exact ⟨j + 1, by omega, by go_num, (by rw [He.out]; exact hown3), Hin2.out, hF3, hB3⟩
            case measure => simp [intOf]; omega
          · have hmd := decide_eq_false hm
            have he := HTK2.out
            rw [if_neg hm] at he
            have He := Lib.hid he
            have Hown3 := Lib.hid hown3
            clear he hm hown3
            go_wp2_with (first
              | (at_builtin; refine wpList_append_own_at _ rfl (.tmp 35) (.tmp 40) 25 rfl W0.heap.size 3 i0 (.int .i64 0) 1 8 Tryz.underlying25 hi hz0 hz1 hz2 rfl (by decide) _ O2.length _ rfl (Hown3.out.alloc _) ⟨w3.heap.size, 0, none⟩ 1 1 [.int .i64 y] rfl rfl (oneCell_at _) (oneCell_int _) (by unfold maxLen; omega) (by omega) (by have := hB3.size; simp; omega) ?_; intro v4 w4 hown4 hg4 _ hloc; have hb4 := own_below (Hown3.out.alloc _) hg4 (by have := hB3.size; simp; omega) (hB3.alloc hB3.size _))
              | fail)
            have hsz3 : M ≤ w3.heap.size := hF3.1
            go_roundw
            case rel =>
              refine ⟨j + 1, by omega, by go_num, (by rw [He.out, intVals_snoc, List.length_append, List.length_singleton]; exact hown4), fun q hq => ?_, (hF3.below ((Below.refl _ _).alloc (Nat.le_refl _) _)).grown hg4 Hin2.out, hb4⟩
              rcases hloc with e | e
              · exact Hin2.out q (e ▸ hq)
              · rw [hq] at e
                have := Option.some.inj e
                simp at this
                omega
            case measure => simp [intOf]; omega
        · have hj' : j = (followed zs x).length := by omega
          subst hj'
          have ho := Hown2.out
          rw [List.take_length] at *
          have Ho := Lib.hid ho
          clear ho
          go_wp2
          go_roundw
          case rel => exact ⟨k + 1, by omega, by go_num, (by rw [HTK.out]; exact Ho.out), hB2⟩
          case measure => simp [intOf]; omega
    · have hk' : k = vs.length := by omega
      subst hk'
      have ho := Hown.out
      rw [List.take_length] at *
      have Ho := Lib.hid ho
      clear ho
      go_wp2
      go_ret
      exact built_end (intVals_length _).symm (own_base Ho.out hb0.size) hBr
end Go.Proofs.YtglcailcdcpadaaGreatDoor
