/-
  The program's parts of a node with what is bound around them.
-/
import Derived.Test.YthhhmlohfhioeaaScopes
import Derived.Deep.AppendLies
namespace Go.Proofs.Ythhhmlohfhioeaa
open Go Go.RowKit Go.ChangeAt Go.ChangeShapes Go.WideShapes

theorem scInfo : (Try.prog.info? 74).map (fun i => (i.zero, i.size, i.bytes)) = some (some (.agg #[.pointer none, .bool false, .bool false, .bool false, .bool false]), 5, 16) := by kernel_rfl
theorem sc_news (w : World) (u v x y z : Value) (t : TypeId) : ∀ j q, [u, v, x, y, z][j]? = some q → (w.alloc (.cells #[u, v, x, y, z] t)).cell? ((⟨w.heap.size, 0, none⟩ : Addr).add j) = some q := by
  intro j q hj
  match j, hj with
  | 0, hj => simp at hj; subst hj; simp [Addr.add]
  | 1, hj => simp at hj; subst hj; simp [Addr.add, go_sem]
  | 2, hj => simp at hj; subst hj; simp [Addr.add, go_sem]
  | 3, hj => simp at hj; subst hj; simp [Addr.add, go_sem]
  | 4, hj => simp at hj; subst hj; simp [Addr.add, go_sem]
  | j + 5, hj => simp at hj
theorem sc_one (a : Option Addr) (p q r s : Bool) : ∀ u ∈ [Value.pointer a, Value.bool p, Value.bool q, Value.bool r, Value.bool s], u.oneCell' = true := by
  intro u hu
  simp at hu
  rcases hu with rfl | rfl | rfl | rfl | rfl <;> rfl
theorem inB_no {x : Sc} (h : isB x.1.2.kd = false) : inB x = x.2 := by rw [inB, h]; rfl
theorem inB_far {x : Sc} (h : ¬ (0 ≤ x.1.2.u ∧ x.1.2.u < 4)) : inB x = x.2 := by
  unfold inB B4.put
  split
  · rw [if_neg (by omega), if_neg (by omega), if_neg (by omega), if_neg (by omega)]
  · rfl

set_option maxRecDepth 100000 in
set_option maxHeartbeats 3200000 in
theorem implInnerS (x : Sc) (w : World) (h1 : LocOk w w.heap.size x.1) (hn : x.1.2.args.length ≤ 1099511627776) :
    Calls Try.prog 46 #[scV x] w (fun e w' => ∃ a cap, e = .returned (.slice a (stepsS x).length cap) ∧ w'.ownsRow w.heap.size 74 5 (.slice a (stepsS x).length cap) (stepsS x).length ((stepsS x).flatMap scCells) ∧ Below w.heap.size w w') := by
  obtain ⟨i0, hi, hz0, hz1, hz2⟩ := info_parts scInfo
  have hsl := stepsS_length x
  have hst : stepsS x = (kids x.1).map fun y => (y, inB x) := rfl
  have hkl := kids_length x.1
  obtain ⟨st, hst'⟩ : ∃ s, stepsS x = s := ⟨_, rfl⟩
  rw [hst'] at hst hsl ⊢
  obtain ⟨ib, hib⟩ : ∃ b, inB x = b := ⟨_, rfl⟩
  rw [hib] at hst
  have HIBN := Lib.hid (fun h : isB x.1.2.kd = false => hib.symm.trans (inB_no h))
  have HIBF := Lib.hid (fun h : ¬ (0 ≤ x.1.2.u ∧ x.1.2.u < 4) => hib.symm.trans (inB_far h))
  have HIBP := Lib.hid (fun h : isB x.1.2.kd = true => (show ib = x.2.put x.1.2.u by rw [← hib, inB, if_pos h]))
  have HKK := Lib.hid (fun (W : World) (hb : Below w.heap.size w W) => h1.below hb)
  obtain ⟨⟨p, t⟩, b4⟩ := x
  obtain ⟨pa, oa, e1, hnode⟩ := h1.at_
  have k1 := h1.blk
  simp only at e1 hnode k1 hn
  subst e1
  have g1 : pa < w.heap.size := k1
  have hkat := fun i (h : i < (kids (⟨pa, oa, none⟩, t)).length) => List.getElem?_eq_getElem h
  obtain ⟨kk, hkk⟩ : ∃ k, kids (⟨pa, oa, none⟩, t) = k := ⟨_, rfl⟩
  simp only at hst hkl
  rw [hkk] at hst hkl
  have HKEQ := Lib.hid hkk
  obtain ⟨c0, c1, c2, c3, c4⟩ := hnode
  have HNODE := Lib.hid (fun (W : World) (hb : Below w.heap.size w W) => (show W.cell? ⟨pa, oa + 2, none⟩ = some (.int .i64 t.u) from (hb.cell (p := ⟨pa, oa + 2, none⟩) g1).trans c2))
  have HST := Lib.hid hst
  have HSL := Lib.hid hsl
  have HKL := Lib.hid hkl
  have HARG := Lib.hid (fun (W : World) (hb : Below w.heap.size w W) => implArgsOf (⟨pa, oa, none⟩, t) W (HKK.out W hb) hn)
  have HIB := Lib.hid (fun W => implIsBinder t W)
  unfold scV
  simp only at HIBN HIBF HIBP ⊢
  obtain ⟨q0, q1, q2, q3⟩ := b4
  have HB2 := Lib.hid (fun c t c' t' => (((Below.refl w.heap.size w).alloc (Nat.le_refl _) (.cells c t)).alloc (by simp) (.cells c' t')))
  clear hst hsl hkl hkk hst' hib h1 k1 hkat
  generalize hkd : t.kd = kd at *
  generalize hxu : t.u = xu at *
  have HKDU := Lib.hid (And.intro hkd hxu)
  clear hkd hxu
  obtain ⟨bb, hbb⟩ : ∃ b, isB kd = b := ⟨_, rfl⟩
  rw [hbb] at HIBN HIBP HIB
  clear hbb
  unfold Ft.val at HIB
  rw [HKDU.out.1, HKDU.out.2] at HIB
  go_enter Try.func46, Try.ntmps46
  go_wp2_with fail
  refine (HIB.out _).mono ?_
  rintro e w1 ⟨rfl, hb1⟩
  have hz1' := hb1.size
  simp at hz1'
  have hB1 : Below w.heap.size w w1 := (HB2.out _ _ _ _).trans (hb1.mono (by simp; omega))
  have hc : ∀ o, w1.cell? ⟨w.heap.size, o, none⟩ = _ := fun o => hb1.cell (p := ⟨w.heap.size, o, none⟩) (by simp; omega)
  have hd : ∀ o, w1.cell? ⟨w.heap.size + 1, o, none⟩ = _ := fun o => hb1.cell (p := ⟨w.heap.size + 1, o, none⟩) (by simp)
  have hf : ∀ o, w1.frozen? ⟨w.heap.size + 1, o, none⟩ = _ := fun o => hb1.frozen (p := ⟨w.heap.size + 1, o, none⟩) (by simp)
  have a0 : w1.cell? ⟨w.heap.size, 0, none⟩ = some (.pointer (some ⟨pa, oa, none⟩)) := by rw [hc]; simp [go_sem]
  have r0 : w1.cell? ⟨w.heap.size + 1, 0, none⟩ = some (.bool q0) := by rw [hd]; simp [go_sem]
  have r1 : w1.cell? ⟨w.heap.size + 1, 1, none⟩ = some (.bool q1) := by rw [hd]; simp [go_sem]
  have r2 : w1.cell? ⟨w.heap.size + 1, 2, none⟩ = some (.bool q2) := by rw [hd]; simp [go_sem]
  have r3 : w1.cell? ⟨w.heap.size + 1, 3, none⟩ = some (.bool q3) := by rw [hd]; simp [go_sem]
  have rf0 : w1.frozen? ⟨w.heap.size + 1, 0, none⟩ = false := by rw [hf]; simp [go_sem]
  have rf1 : w1.frozen? ⟨w.heap.size + 1, 1, none⟩ = false := by rw [hf]; simp [go_sem]
  have rf2 : w1.frozen? ⟨w.heap.size + 1, 2, none⟩ = false := by rw [hf]; simp [go_sem]
  have rf3 : w1.frozen? ⟨w.heap.size + 1, 3, none⟩ = false := by rw [hf]; simp [go_sem]
  have hu := HNODE.out w1 hB1
  have H1 := Lib.hid hB1
  clear hc hd hf hB1 hb1 c0 c1 c2 c3 c4
  cases bb
  case' false =>
    have hib := HIBN.out rfl
    subst hib
    clear hu
    go_wp2_with fail
  case' true =>
    by_cases hl : 0 ≤ xu ∧ xu < 4
    case' neg =>
      have hib := HIBF.out hl
      subst hib
      have HLG := Lib.hid (fun W : World => logicB (decL hl) W)
      clear hl
      go_wp2_with fail
      refine (HLG.out _).mono ?_
      rintro e w2 ⟨rfl, rfl⟩
      go_wp2_with fail
    case' pos =>
      have hib := HIBP.out rfl
      have h4 : xu = 0 ∨ xu = 1 ∨ xu = 2 ∨ xu = 3 := by omega
      have HLG := Lib.hid (fun W : World => logicB (decLy hl) W)
      clear hl
      rcases h4 with rfl | rfl | rfl | rfl
      all_goals
        simp only [B4.put, if_true, if_false, Int.reduceEq] at hib
        subst hib
        go_wp2_with fail
        refine (HLG.out _).mono ?_
        rintro e w2 ⟨rfl, rfl⟩
        go_wp2_with fail
  all_goals
    refine (HARG.out _ ?_).mono ?_
    · repeat (first | exact H1.out | refine Below.setCell ?_ (by simp) _)
    rintro e w5 ⟨a2, cc2, rfl, _, hown2, hb5⟩
    have hz5 := hb5.size
    try simp at hz5
    have hB5 : Below w.heap.size w w5 := Below.trans (by repeat (first | exact H1.out | refine Below.setCell ?_ (by simp) _)) (hb5.mono (by first | omega | (simp; omega)))
    have m0 : w5.cell? ⟨w.heap.size + 1, 0, none⟩ = _ := hb5.cell (p := ⟨w.heap.size + 1, 0, none⟩) (by first | (show w.heap.size + 1 < _; omega) | (simp; omega))
    have m1 : w5.cell? ⟨w.heap.size + 1, 1, none⟩ = _ := hb5.cell (p := ⟨w.heap.size + 1, 1, none⟩) (by first | (show w.heap.size + 1 < _; omega) | (simp; omega))
    have m2 : w5.cell? ⟨w.heap.size + 1, 2, none⟩ = _ := hb5.cell (p := ⟨w.heap.size + 1, 2, none⟩) (by first | (show w.heap.size + 1 < _; omega) | (simp; omega))
    have m3 : w5.cell? ⟨w.heap.size + 1, 3, none⟩ = _ := hb5.cell (p := ⟨w.heap.size + 1, 3, none⟩) (by first | (show w.heap.size + 1 < _; omega) | (simp; omega))
    try simp [go_sem, r0, r1, r2, r3] at m0 m1 m2 m3
    obtain ⟨e0, e1, e2, e3, hst, hm0, hm1, hm2, hm3⟩ : ∃ e0 e1 e2 e3 : Bool, st = kk.map (fun y => (y, (⟨e0, e1, e2, e3⟩ : B4))) ∧ w5.cell? ⟨w.heap.size + 1, 0, none⟩ = some (.bool e0) ∧ w5.cell? ⟨w.heap.size + 1, 1, none⟩ = some (.bool e1) ∧ w5.cell? ⟨w.heap.size + 1, 2, none⟩ = some (.bool e2) ∧ w5.cell? ⟨w.heap.size + 1, 3, none⟩ = some (.bool e3) := ⟨_, _, _, _, HST.out, m0, m1, m2, m3⟩
    rw [ptrs_length] at hown2 ⊢
    have hkn := HKL.out
    have hlk : (kids (⟨pa, oa, none⟩, t)).length = t.args.length := kids_length _
    rw [hlk] at hown2 ⊢
    have hrow2 := Row.owned hown2
    rw [HKEQ.out] at hrow2
    have HR2 := Lib.hid hrow2
    have HM := Lib.hid (fun (W : World) (hb : Below w5.heap.size w5 W) => And.intro ((hb.cell (p := ⟨w.heap.size + 1, 0, none⟩) (by show w.heap.size + 1 < _; omega)).trans hm0) (And.intro ((hb.cell (p := ⟨w.heap.size + 1, 1, none⟩) (by show w.heap.size + 1 < _; omega)).trans hm1) (And.intro ((hb.cell (p := ⟨w.heap.size + 1, 2, none⟩) (by show w.heap.size + 1 < _; omega)).trans hm2) ((hb.cell (p := ⟨w.heap.size + 1, 3, none⟩) (by show w.heap.size + 1 < _; omega)).trans hm3))))
    have H5 := Lib.hid hB5
    have hsz5 : w.heap.size + 1 < w5.heap.size := by omega
    have HS2 := Lib.hid hst
    clear hown2 hb5 a0 r0 r1 r2 r3 rf0 rf1 rf2 rf3 hrow2 hlk hkn m0 m1 m2 m3 hm0 hm1 hm2 hm3 hB5 HST hst HIBN HIBF HIBP
    go_wp2_with fail
    go_loopw [3, 32] (fun v i wr => ∃ k : Nat, k ≤ t.args.length ∧ i = .int .i64 k ∧ wr.ownsRow w5.heap.size 74 5 v k ((st.take k).flatMap scCells) ∧ Below w5.heap.size w5 wr) (fun _ i _ => t.args.length - (intOf i).toNat)
    case atStart => exact ⟨0, Nat.zero_le _, rfl, ⟨rfl, .inl ⟨rfl, rfl⟩⟩, Below.refl _ _⟩
    case round =>
      obtain ⟨k, hk, rfl, hown, hbw⟩ := hrel
      obtain ⟨va, vc, rfl, _⟩ := rc_shape hown
      have hzw := hbw.size
      by_cases hlt : k < t.args.length
      · have hkk : k < kk.length := by rw [HKL.out]; exact hlt
        obtain ⟨b', o', ha2, hb', hcell0⟩ := HR2.out k _ (ptrs_at kk k hkk)
        have hcell : wr.cell? ⟨b', o' + k, none⟩ = some (.pointer (some (kk[k]).1)) := (hbw.cell (p := ⟨b', o' + k, none⟩) hb').trans hcell0
        have hks : k < st.length := by rw [HSL.out]; exact hlt
        obtain ⟨m0, m1, m2, m3⟩ := HM.out wr hbw
        have hnx : (st.take (k + 1)).flatMap scCells = (st.take k).flatMap scCells ++ [.pointer (some (kk[k]).1), .bool e0, .bool e1, .bool e2, .bool e3] := by
          rw [take_next st k hks, sc_flat_snoc]
          congr 1
          have h1 := HS2.out
          subst h1
          simp [scCells]
        generalize (kk[k]).1 = ka at *
        have HNX := Lib.hid hnx
        have Hown := Lib.hid hown
        have HBW := Lib.hid hbw
        have HHA := Lib.hid ha2
        subst ha2
        clear hown hbw hnx hcell0
        go_wp2_with (at_builtin; refine wpList_append_own_at _ rfl (.tmp 36) (.tmp 40) 71 rfl w5.heap.size 74 i0 (.agg #[.pointer none, .bool false, .bool false, .bool false, .bool false]) 5 16 Try.underlying71 hi hz0 hz1 hz2 rfl (by decide) _ k _ rfl (Hown.out.alloc _) ⟨wr.heap.size, 0, none⟩ 1 1 [.pointer (some ka), .bool e0, .bool e1, .bool e2, .bool e3] rfl rfl (sc_news _ _ _ _ _ _ _) (sc_one _ _ _ _ _) (by unfold maxLen; omega) (by omega) (by simp; omega) ?_; intro v5 w6 hown5 hg5 _ hloc5)
        have hb6 : Below w5.heap.size w5 w6 := below_grown (HBW.out.alloc hzw _) hg5 (by simp; omega) (fun k hk => (Hown.out.lt k hk).1)
        clear hg5 hloc5
        go_wp2_with fail
        go_roundw
        case rel => exact ⟨k + 1, by omega, by go_num, by rw [HNX.out]; exact hown5, hb6⟩
        case measure => simp [intOf]; omega
      · obtain rfl : k = t.args.length := by omega
        have Hown := Lib.hid hown
        have HF := Lib.hid (H5.out.trans (hbw.mono (by omega)))
        clear hown hbw
        go_wp2_with fail
        go_ret
        have ho := Hown.out
        have hsl := HSL.out
        rw [← hsl, List.take_length] at ho
        exact ⟨va, vc, by rw [hsl]; rfl, own_base ho (by omega), HF.out⟩
end Go.Proofs.Ythhhmlohfhioeaa
