/-
  The model's canonical heap, and its test whether a heap is one.
-/
import Derived.Test.YtglcailcdcpadaaGreatDoorZ28
namespace Go.Proofs.YtglcailcdcpadaaGreatDoor
open Go Go.RowKit Go.Maps

set_option maxRecDepth 100000 in
set_option maxHeartbeats 3200000 in
theorem specCanonHeap (a b : Option Addr) (ca cb : Nat) (vs zs : List Int) (w : World) (hv : vs.length ≤ 1048576) (hz : zs.length ≤ 1048576) (h : HeapAt w a b vs zs) :
    Calls Tryz.prog 130 #[heV a vs.length ca b zs.length cb] w (MadeHeap (canonVs vs zs) (canonNs vs zs) w) := by
  obtain ⟨i0, hi, hz0, hz1, hz2⟩ := info_parts numInfo
  have hat : ∀ W, Below w.heap.size w W → HeapAt W a b vs zs := fun W hb => h.below hb (Nat.le_refl _)
  have HAT := Lib.hid hat
  clear hat h
  go_enter Tryz.func130, Tryz.ntmps130
  go_wp2_with fail
  obtain ⟨W0, hW0, hb0, hs0, hA0, hR0⟩ := two_box2 w (.slice a vs.length ca) (.slice b zs.length cb) (.slice none 0 0) (.slice none 0 0) 121 121
  have hf0 : ∀ o, W0.frozen? ⟨w.heap.size + 1, o, none⟩ = false := fun o => by rw [← hW0]; simp [go_sem]
  rw [hW0]
  clear hW0
  have hAR : ∀ W, Below W0.heap.size W0 W → Box2 W w.heap.size (.slice a vs.length ca) (.slice b zs.length cb) ∧ Box2 W (w.heap.size + 1) (.slice none 0 0) (.slice none 0 0) ∧ (∀ o, W.frozen? ⟨w.heap.size + 1, o, none⟩ = false) ∧ Below w.heap.size w W := fun W hb =>
    ⟨hA0.keep (by omega) hb, hR0.keep hs0 hb, fun o => (hb.frozen (p := ⟨w.heap.size + 1, o, none⟩) hs0).trans (hf0 o), hb0.trans (hb.mono hb0.size)⟩
  clear hA0 hR0 hf0
  refine (specCells a b ca cb vs zs _ (by unfold maxLen; omega) (by unfold maxLen; omega) (HAT.out _ hb0)).mono ?_
  rintro e w1 ⟨rfl, hb1⟩
  obtain ⟨⟨c0, c1⟩, ⟨r0, r1⟩, rf, hB1⟩ := hAR _ hb1
  have hs1 : w.heap.size + 1 < w1.heap.size := Nat.lt_of_lt_of_le hs0 hb1.size
  cases hg : goodH vs zs with
  | false =>
    have Hg := Lib.hid hg
    clear hg
    go_wp2
    refine bodyPost_ret (v := heV none 0 0 none 0 0) (by simp [results, Tryz.results130, go_sem, r0, r1]) rfl ?_
    have e1 : canonVs vs zs = [] := by simp [canonVs, Hg.out]
    have e2 : canonNs vs zs = [] := by simp [canonNs, Hg.out]
    rw [e1, e2]
    refine ⟨none, 0, none, 0, rfl, ⟨⟨Nat.le_refl _, World.ownsRow_nil _ _ _ _, fun k hk => by cases hk⟩, ⟨Nat.le_refl _, World.ownsRow_nil _ _ _ _, fun k hk => by cases hk⟩, fun j hj => by cases hj⟩, ?_⟩
    repeat (first | with_reducible exact hB1 | with_reducible refine Below.setCell ?_ (by simp <;> omega) _)
  | true =>
    have e1 : canonVs vs zs = canonV vs zs := by simp [canonVs, hg]
    have e2 : canonNs vs zs = canonN vs zs := by simp [canonNs, hg]
    have E1 := Lib.hid e1
    have E2 := Lib.hid e2
    have ho : orderS zs [] vs = order vs zs := orderS_good (goodH_parts hg).2
    clear e1 e2 hg
    go_wp2_with fail
    refine (specOrder a b ca cb vs zs _ hv hz (HAT.out _ hB1)).mono ?_
    rw [ho]
    rintro e w3 ⟨oa, oc, rfl, hoc, hor, hb3⟩
    rw [intVals_length] at *
    have hO3 : RowIn w1.heap.size w3.heap.size w3 oa (intVals (order vs zs)) := (OwnIn.of hor).rowIn
    have hb13 := hb3
    have hb3 := hb1.trans (hb3.mono hb1.size)
    obtain ⟨hA3, hR3, rf3, hB3⟩ := hAR _ hb3
    have hs3 : w.heap.size + 1 < w3.heap.size := Nat.lt_of_lt_of_le hs0 hb3.size
    clear c0 c1 r0 r1 rf hAR hb1 hb3 hs1 hB1 hb0 hs0 hor ho hb13
    have hD0 : Cn w w3.heap.size (.slice a vs.length ca) (.slice b zs.length cb) (.slice none 0 0) (.slice none 0 0) (w3.alloc (.cells #[.slice none 0 0, .slice none 0 0] 121)) := by
      have hk := (Below.refl w3.heap.size w3).alloc (Nat.le_refl _) (.cells #[.slice none 0 0, .slice none 0 0] 121)
      exact ⟨hB3.trans (hk.mono hB3.size), hA3.keep (by omega) hk, hR3.keep hs3 hk, fun o => (hk.frozen (p := ⟨w.heap.size + 1, o, none⟩) hs3).trans (rf3 o), by simp [Box2, go_sem], fun o => by simp [go_sem], hs3, by simp⟩
    have hO0 : RowIn w1.heap.size w3.heap.size (w3.alloc (.cells #[.slice none 0 0, .slice none 0 0] 121)) oa (intVals (order vs zs)) := hO3.below ((Below.refl _ _).alloc (Nat.le_refl _) _)
    go_wp2
    clear hA3 hR3 rf3 hB3 hO3
    have hQ0 : w.heap.size + 1 < w3.heap.size := hs3
    clear hs3
    generalize w3.alloc (.cells #[.slice none 0 0, .slice none 0 0] 121) = W4 at *
    generalize w3.heap.size = Q at *
    generalize w1.heap.size = R at *
    have hE := order_end vs zs
    have HE := Lib.hid hE
    have hlm := hE.len
    clear hE
    go_loopw [5] (fun i wr => ∃ (k : Nat) (v : Value), k ≤ vs.length ∧ i = .int .i64 k ∧ Cn w Q (.slice a vs.length ca) (.slice b zs.length cb) v (.slice none 0 0) wr ∧ RowIn R Q wr oa (intVals (order vs zs)) ∧ wr.ownsRow (Q + 1) 3 1 v k (intVals ((vs.take k).map (num (order vs zs)))))
      (fun i _ => vs.length - (intOf i).toNat)
    case atStart => exact ⟨0, _, Nat.zero_le _, rfl, hD0, hO0, World.ownsRow_nil _ _ _ _⟩
    case round =>
      obtain ⟨k, v, hk, rfl, hD, hO, hown⟩ := hrel
      obtain ⟨va, vc, rfl, hvc⟩ := own_shape hown
      obtain ⟨c0, c1⟩ := hD.arg
      by_cases hlt : k < vs.length
      · obtain ⟨bv, ov, rfl, hbv, hcv⟩ := (HAT.out _ hD.below).v k _ (intVals_at vs k hlt)
        have hcv' : wr.drew.cell? ⟨bv, ov + k, none⟩ = some (.int .i64 vs[k]) := hcv
        have hnx := map_take_next (num (order vs zs)) vs k hlt
        have HNX := Lib.hid hnx
        generalize vs[k] = x at *
        clear hnx
        have HD := Lib.hid (hD.call (Below.drew (Below.refl _ _)))
        have HO := Lib.hid (own_drew hown)
        have HR := Lib.hid (hO.below (Below.drew (Below.refl _ _)))
        have hbox := HD.out.box.1
        have harg := HD.out.arg.1
        have hQW := hD.hW
        have hbnd := hD.box.1
        clear hD hO hown
        go_wp2
        go_region_law
          (first
            | (go_simp; go_at_call 149; (with_reducible refine (specNew oa oc (order vs zs) x _ (by omega) HR.out.row).mono ?_); rintro e w5 ⟨rfl, hb5⟩; have D5 := HD.out.call hb5; have O5 := own_keeps HO.out hb5; have R5 := HR.out.below hb5; have d5 := D5.box.1; have z5 := D5.hW)
            | (refine step_append_lies _ rfl (.tmp 22) (.tmp 30) 25 rfl (Q + 1) 3 i0 (.int .i64 0) 1 8 Tryz.underlying25 hi hz0 hz1 hz2 rfl (by decide) (.slice va k vc) k (intVals ((vs.take k).map (num (order vs zs)))) ?_ (O5.alloc _) ⟨w5.heap.size, 0, none⟩ 1 1 [.int .i64 (num (order vs zs) x)] ?_ rfl ?_ ?_ (by omega) ?_ ?_ ?_ _ rfl ?_
               · simp [Act.eval]
               · simp [Act.eval]
               · exact oneCell_at (w := w5) _
               · exact oneCell_int _
               · unfold maxLen; omega
               · omega
               · exact Nat.le_trans (Nat.succ_le_of_lt z5) (by simp)
               intro g9 cap9 w9 hown9 hg9 hat9 hlt9
               have D9 := (D5.call ((Below.refl _ _).alloc (Nat.le_refl _) _)).growR hg9 (fun j hj => by have := (O5.lt j hj).1; omega)
               have R9 := (R5.below ((Below.refl _ _).alloc (Nat.le_refl _) _)).grown hg9 (fun j hj => by have := (O5.lt j hj).1; omega)
               have d9 := D9.box.1
               have pf9 := D9.boxf))
        all_goals
          have tq : Turn Q (Q + 1) w9 (w9.setCell ⟨Q, 0, none⟩ (.slice (some ⟨g9, 0, none⟩) (k + 1) cap9)) := Turn.of_grown (grown_cell (grown_self _ _)) (fun j hj => by have := Option.some.inj hj; omega)
          have hrel := D9.setQ 0 (.slice (some ⟨g9, 0, none⟩) (k + 1) cap9)
          have hR10 := R9.turn tq (.inl (Nat.le_refl _))
          have hown10 : (w9.setCell ⟨Q, 0, none⟩ (.slice (some ⟨g9, 0, none⟩) (k + 1) cap9)).ownsRow (Q + 1) 3 1 (.slice (some ⟨g9, 0, none⟩) (k + 1) cap9) (k + 1) (intVals ((vs.take (k + 1)).map (num (order vs zs)))) := by
            rw [HNX.out, intVals_snoc]
            exact ownsRow_setCell_below hown9 (a := ⟨Q, 0, none⟩) (Nat.lt_succ_self Q) _
          go_wp2
          go_roundw
          case rel => first | exact ⟨k + 1, _, by omega, by go_num, hrel, hR10, hown10⟩ | ((repeat apply Exists.intro); exact ⟨⟨k + 1, _, by omega, by go_num, hrel, hR10, hown10⟩, rfl⟩)
          case measure => simp [intOf]; omega
      · have hk' : k = vs.length := by omega
        subst hk'
        rw [List.take_length] at hown
        have hV5 : OwnIn (Q + 1) wr.heap.size wr 3 1 (.slice va vs.length vc) vs.length (intVals (canonV vs zs)) := OwnIn.of hown
        have hQr : Q < wr.heap.size := hD.hW
        clear hown hD0 hO0 hlt
        go_wp2
        generalize hM : wr.heap.size = M at *
        go_loopw [6] (fun i wq => ∃ (k : Nat) (v : Value), k ≤ (order vs zs).length ∧ i = .int .i64 k ∧ Cn w Q (.slice a vs.length ca) (.slice b zs.length cb) (.slice va vs.length vc) v wq ∧
            OwnIn (Q + 1) M wq 3 1 (.slice va vs.length vc) vs.length (intVals (canonV vs zs)) ∧ RowIn R Q wq oa (intVals (order vs zs)) ∧ wq.ownsRow M 3 1 v k (intVals (((order vs zs).take k).map fun c => num (order vs zs) (nextC zs c))))
          (fun i _ => (order vs zs).length - (intOf i).toNat)
        case atStart => exact ⟨0, _, Nat.zero_le _, rfl, hD, hV5, hO, World.ownsRow_nil _ _ _ _⟩
        case round =>
          clear hD hV5 hO c0 c1 hM
          obtain ⟨k, v, hk, rfl, hD, hV, hO, hown⟩ := hrel
          obtain ⟨na, nc, rfl, hnc⟩ := own_shape hown
          by_cases hlt : k < (order vs zs).length
          · have hxc := HE.out.cells _ (List.getElem_mem hlt)
            have hnx := map_take_next (fun c => num (order vs zs) (nextC zs c)) (order vs zs) k hlt
            obtain ⟨j, hj, hjz⟩ := isC_nat hxc
            obtain ⟨bo, oo, rfl, hbo, hco⟩ := hO.row k _ (intVals_at _ k hlt)
            rw [hj] at hco
            simp only [hj, nextC_at hjz] at hnx
            obtain ⟨bz, oz, rfl, hbz, hcz⟩ := (HAT.out _ hD.below).z j _ (intVals_at zs j hjz)
            have hcz' : wr.drew.cell? ⟨bz, oz + j, none⟩ = some (.int .i64 zs[j]) := hcz
            have hco' : wr.drew.cell? ⟨bo, oo + k, none⟩ = some (.int .i64 (j : Int)) := hco
            generalize hzx : zs[j] = x at *
            have HNX := Lib.hid hnx
            have HD := Lib.hid (hD.call (Below.drew (Below.refl _ _)))
            have HO := Lib.hid (own_drew hown)
            have HV := Lib.hid (hV.below (Below.drew (Below.refl _ _)))
            have HR := Lib.hid (hO.below (Below.drew (Below.refl _ _)))
            have hbox := HD.out.box.2
            have harg := HD.out.arg.2
            have hbnd := hD.box.2
            have harn := hD.arg.2
            have hQW := hD.hW
            have hMW := hV.1
            have hlm2 : (order vs zs).length ≤ 1048576 := by omega
            have hjz' : ((j : Nat) : Int) < (zs.length : Int) := by omega
            clear hD hown hV hO hnx hxc hj hzx
            go_wp2
            go_region_law
              (first
                | (go_simp; go_at_call 149; (with_reducible refine (specNew _ oc (order vs zs) x _ (by omega) HR.out.row).mono ?_); rintro e w5 ⟨rfl, hb5⟩; have D5 := HD.out.call hb5; have O5 := own_keeps HO.out hb5; have R5 := HR.out.below hb5; have V5 := HV.out.below hb5; have d5 := D5.box.2; have z5 := V5.1; have y5 := D5.hW)
                | (refine step_append_lies _ rfl (.tmp 40) (.tmp 51) 25 rfl M 3 i0 (.int .i64 0) 1 8 Tryz.underlying25 hi hz0 hz1 hz2 rfl (by decide) (.slice na k nc) k (intVals (((order vs zs).take k).map fun c => num (order vs zs) (nextC zs c))) ?_ (O5.alloc _) ⟨w5.heap.size, 0, none⟩ 1 1 [.int .i64 (num (order vs zs) x)] ?_ rfl ?_ ?_ (by omega) ?_ ?_ ?_ _ rfl ?_
                   · simp [Act.eval]
                   · simp [Act.eval]
                   · exact oneCell_at (w := w5) _
                   · exact oneCell_int _
                   · unfold maxLen; omega
                   · omega
                   · exact Nat.le_trans z5 (by simp)
                   intro g9 cap9 w9 hown9 hg9 hat9 hlt9
                   have hal := (Below.refl w5.heap.size w5).alloc (Nat.le_refl _) (.cells #[.int .i64 (num (order vs zs) x)] 3)
                   have T9 : Turn M w9.heap.size _ w9 := Turn.of_grown hg9 (fun j hj => ⟨(O5.lt j hj).1, by have h2 : j < w5.heap.size := (O5.lt j hj).2; have h1 : w5.heap.size + 1 ≤ w9.heap.size := (by have := hg9.size; simpa using this); omega⟩)
                   have D9 := (D5.call hal).growR hg9 (fun j hj => by have := (O5.lt j hj).1; omega)
                   have V9 := (V5.below hal).turn T9 (.inl (Nat.le_refl _))
                   have R9 := (R5.below hal).turn T9 (.inl (Nat.le_of_lt hQr))
                   have d9 := D9.box.2
                   have pf9 := D9.boxf))
            all_goals
              have tq : Turn Q (Q + 1) w9 (w9.setCell ⟨Q, 1, none⟩ (.slice (some ⟨g9, 0, none⟩) (k + 1) cap9)) := Turn.of_grown (grown_cell (grown_self _ _)) (fun j hj => by have := Option.some.inj hj; omega)
              have hrel := D9.setQ 1 (.slice (some ⟨g9, 0, none⟩) (k + 1) cap9)
              have hV10 := V9.turn tq (.inr (Nat.le_refl _))
              have hR10 := R9.turn tq (.inl (Nat.le_refl _))
              have hown10 : (w9.setCell ⟨Q, 1, none⟩ (.slice (some ⟨g9, 0, none⟩) (k + 1) cap9)).ownsRow M 3 1 (.slice (some ⟨g9, 0, none⟩) (k + 1) cap9) (k + 1) (intVals (((order vs zs).take (k + 1)).map fun c => num (order vs zs) (nextC zs c))) := by
                rw [HNX.out, intVals_snoc]
                exact ownsRow_setCell_below hown9 (a := ⟨Q, 1, none⟩) hQr _
              go_wp2
              go_roundw
              case rel => first | exact ⟨k + 1, _, by omega, by go_num, hrel, hV10, hR10, hown10⟩ | ((repeat apply Exists.intro); exact ⟨⟨k + 1, _, by omega, by go_num, hrel, hV10, hR10, hown10⟩, rfl⟩)
              case measure => simp [intOf]; omega
          · have hk' : k = (order vs zs).length := by omega
            subst hk'
            rw [List.take_length] at hown
            obtain ⟨x0, x1⟩ := hD.box
            obtain ⟨r0, r1⟩ := hD.res
            have rf := hD.resf
            have hne : ¬ w.heap.size + 1 = Q := by omega
            have hblw := hD.below
            have hMW := hV.1
            have HV := Lib.hid hV
            have HN := Lib.hid hown
            clear hD hV hO hown
            go_wp2
            refine bodyPost_ret (v := heV va vs.length vc na (order vs zs).length nc) (by simp [results, Tryz.results130, go_sem, r0, r1]) rfl ?_
            have tq : Turn (w.heap.size + 1) (w.heap.size + 2) wr ((wr.setCell ⟨w.heap.size + 1, 0, none⟩ (.slice va vs.length vc)).setCell ⟨w.heap.size + 1, 1, none⟩ (.slice na (order vs zs).length nc)) :=
              Turn.of_grown (grown_cell (grown_cell (grown_self _ _))) (fun j hj => by have := Option.some.inj hj; omega)
            have ev : (intVals (canonV vs zs)).length = vs.length := by rw [intVals_length]; simp [canonV]
            have en : (intVals (canonN vs zs)).length = (order vs zs).length := by rw [intVals_length]; simp [canonN]
            have ev' : (canonV vs zs).length = vs.length := by simp [canonV]
            have en' : (canonN vs zs).length = (order vs zs).length := by simp [canonN]
            rw [E1.out, E2.out]
            refine ⟨va, vc, na, nc, by rw [ev', en'], ⟨?_, ?_, ?_⟩, tq.below hblw (by omega) hblw.size⟩
            · rw [ev]
              exact (HV.out.turn tq (.inr (by omega))).mono (by omega) (by simp; omega) (Nat.le_refl _)
            · rw [en]
              exact ((OwnIn.of HN.out).turn tq (.inr (by omega))).mono (by omega) (by simp) (Nat.le_refl _)
            · rw [ev, en]
              intro j h1 h2
              have := HV.out.2.2 j h1
              have := (HN.out.lt j h2).1
              omega
end Go.Proofs.YtglcailcdcpadaaGreatDoor
