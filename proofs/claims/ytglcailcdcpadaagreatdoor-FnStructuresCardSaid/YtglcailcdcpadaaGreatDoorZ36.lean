/-
  The model's structure of a heap: the walk.
-/
import Derived.Test.YtglcailcdcpadaaGreatDoorZ30
import Derived.Test.YtglcailcdcpadaaGreatDoorZ01
namespace Go.Proofs.YtglcailcdcpadaaGreatDoor
open Go Go.RowKit Go.Sort Go.ChangeAt Go.ChangeShapes Go.WideShapes

set_option maxRecDepth 100000 in
set_option maxHeartbeats 3200000 in
theorem specStructureOf (a b : Option Addr) (ca cb : Nat) (vs zs : List Int) (w : World) (hv : vs.length ≤ 1048576) (hz : zs.length ≤ 1048576) (h : HeapAt w a b vs zs) :
    Calls Tryz.prog 104 #[heV a vs.length ca b zs.length cb] w (MadeSt (structB vs zs) w) := by
  obtain ⟨i0, hi, hz0, hz1, hz2⟩ := info_parts numInfo
  obtain ⟨j0, hjn, hy0, hy1, hy2⟩ := info_parts nodeInfoS
  have hat : ∀ W, Below w.heap.size w W → HeapAt W a b vs zs := fun W hb => h.below hb (Nat.le_refl _)
  have HAT := Lib.hid hat
  clear hat h
  go_enter Tryz.func104, Tryz.ntmps104
  go_wp2_with fail
  obtain ⟨W0, hW0, hb0, bn0, bp0⟩ := two_boxL w [.slice a vs.length ca, .slice b zs.length cb] [.slice none 0 0, .slice none 0 0] 121 27
  simp only [List.toArray] at hW0
  rw [hW0]
  clear hW0
  refine (specCells a b ca cb vs zs _ (by unfold maxLen; omega) (by unfold maxLen; omega) (HAT.out _ hb0)).mono ?_
  rintro e w1 ⟨rfl, hb1⟩
  have S1 : Sw w (.slice a vs.length ca) (.slice b zs.length cb) w1 := ⟨hb0.trans (hb1.mono hb0.size), bn0.below hb1, bp0.below hb1⟩
  clear bn0 bp0 hb0 hb1
  have n0 := S1.arg.c 0 _ rfl
  have n1 := S1.arg.c 1 _ rfl
  have p0 := S1.res.c 0 _ rfl
  have p1 := S1.res.c 1 _ rfl
  have pf := S1.res.f
  have hpl := S1.res.lt
  have hbad : heapStOk vs zs = false → MadeSt (structB vs zs) w (.returned (heV none 0 0 none 0 0)) ((w1.setCell ⟨w.heap.size + 1, 0, none⟩ (.slice none 0 0)).setCell ⟨w.heap.size + 1, 1, none⟩ (.slice none 0 0)) := fun hf => by
    have tq : Turn (w.heap.size + 1) (w.heap.size + 2) w1 ((w1.setCell ⟨w.heap.size + 1, 0, none⟩ (.slice none 0 0)).setCell ⟨w.heap.size + 1, 1, none⟩ (.slice none 0 0)) := (turn_set _ _ _ _).trans (turn_set _ _ _ _)
    exact ⟨⟨none, 0, [], none, 0, []⟩, by simp [structB, hf, St.body], rfl, St.In.empty (Nat.le_refl _), tq.below S1.below (by omega) S1.below.size⟩
  have HBAD := Lib.hid hbad
  clear hbad
  cases hg : goodH vs zs with
  | false =>
    have hf := Lib.hid (show heapStOk vs zs = false by simp [heapStOk, hg])
    clear hg
    go_wp2
    exact bodyPost_ret (v := heV none 0 0 none 0 0) (by simp [results, Tryz.results104, go_sem, p0, p1]) rfl (HBAD.out hf.out)
  | true =>
  by_cases hn : zs.length ≤ 10
  case neg =>
    have hf := Lib.hid (show heapStOk vs zs = false by simp [heapStOk, hg, hn])
    clear hg
    go_wp2
    exact bodyPost_ret (v := heV none 0 0 none 0 0) (by simp [results, Tryz.results104, go_sem, p0, p1]) rfl (HBAD.out hf.out)
  case pos =>
  have HG := Lib.hid hg
  clear hg
  go_wp2_with fail
  refine (specInT _ _ _ _).mono ?_
  rintro e w2 ⟨rfl, rfl⟩
  cases h4 : (decide ((1 : Int) ≤ (vs.length : Int)) && decide ((vs.length : Int) ≤ 4)) with
  | false =>
    have hf := Lib.hid (show heapStOk vs zs = false by
      have e : (decide (1 ≤ vs.length) && decide (vs.length ≤ 4)) = false := by rw [← h4]; congr 1 <;> (apply decide_eq_decide.2; omega)
      simp only [heapStOk, e, Bool.and_false])
    clear h4
    go_wp2
    exact bodyPost_ret (v := heV none 0 0 none 0 0) (by simp [results, Tryz.results104, go_sem, p0, p1]) rfl (HBAD.out hf.out)
  | true =>
  have HOK := Lib.hid (show heapStOk vs zs = true by
      have e : (decide (1 ≤ vs.length) && decide (vs.length ≤ 4)) = true := by rw [← h4]; congr 1 <;> (apply decide_eq_decide.2; omega)
      simp [heapStOk, HG.out, e, hn])
  have hv4 : 1 ≤ vs.length ∧ vs.length ≤ 4 := by simp only [Bool.and_eq_true, decide_eq_true_eq] at h4; omega
  clear h4 HBAD HG
  go_wp2
  obtain ⟨W4, hW4, hb4, bq4⟩ := one_boxL w1 [.slice none 0 0, .slice none 0 0] 27
  simp only [List.toArray] at hW4
  rw [hW4]
  clear hW4 n0 n1 p0 p1 pf
  have S4 := S1.call hb4
  have G4 : Sg w1.heap.size ⟨none, 0, [], none, 0, []⟩ W4 := ⟨bq4, St.In.empty (Nat.le_refl _)⟩
  clear S1 bq4 hb4
  generalize w1.heap.size = Q at *
  go_loopw [5] (fun i wr => ∃ (k : Nat) (x : St), k ≤ zs.length ∧ i = .int .i64 k ∧ x.body = (nodesOfS vs zs k, nextsOfS zs k) ∧ Sw w (.slice a vs.length ca) (.slice b zs.length cb) wr ∧ Sg Q x wr)
    (fun i _ => zs.length - (intOf i).toNat)
  case atStart => exact ⟨0, _, Nat.zero_le _, rfl, by simp [St.body, nodesOfS, nextsOfS], S4, G4⟩
  case round =>
    clear S4 G4
    obtain ⟨k, x, hk, rfl, hbody, S, G⟩ := hrel
    have n0 := S.arg.c 0 _ rfl
    have n1 := S.arg.c 1 _ rfl
    have HB := Lib.hid hbody
    clear hbody
    by_cases hlt : k < zs.length
    · go_wp2_with fail
      refine (specPositions b cb zs (k : Int) _ hz (HAT.out _ S.below).z).mono ?_
      rintro e w2 ⟨pa, pc, rfl, hpc, hpo, hb2⟩
      clear hpo hpc
      rw [intVals_length]
      go_wp2_with fail
      refine (specL3 _ _).mono ?_
      rintro e w3 ⟨rfl, hb3⟩
      have hsh : l3 (decide ((1 : Int) < ((posFrom (k : Int) 0 zs).length : Int))) = sharedS zs k := congrArg l3 (decide_eq_decide.2 (by omega))
      go_wp2
      clear hsh
      obtain ⟨W5, hW5, hb5, bx5⟩ := one_boxL w3 [.slice none 0 0, .slice none 0 0, .int .i64 (sharedS zs k), .int .i64 0] 56
      simp only [List.toArray] at hW5
      rw [hW5]
      clear hW5 n0 n1
      have hB3 := hb2.trans (hb3.mono hb2.size)
      have hB5 := hB3.trans (hb5.mono hB3.size)
      have D5 : Wd w (.slice a vs.length ca) (.slice b zs.length cb) Q wr.heap.size x W5 := ⟨S.call hB5, G.box.below hB5, G.in_.below hB5⟩
      have N5 : Nw w3.heap.size none 0 none 0 [] [] (sharedS zs k) W5 := ⟨bx5, ⟨Nat.le_refl _, World.ownsRow_nil _ _ _ _, fun j hj => (by cases hj)⟩, ⟨Nat.le_refl _, World.ownsRow_nil _ _ _ _, fun j hj => (by cases hj)⟩, fun j hj => (by cases hj)⟩
      have hQM : Q < wr.heap.size := G.box.lt
      have hMX : wr.heap.size ≤ w3.heap.size := hB3.size
      have hwQ : w.heap.size + 2 ≤ Q := hpl
      clear S G hB3 hB5 hb2 hb3 hb5 bx5
      generalize wr.heap.size = M at *
      generalize w3.heap.size = X at *
      generalize hsh : sharedS zs k = sh at *
      have HSH := Lib.hid hsh.symm
      clear hsh
      go_loopw [7] (fun i wq => ∃ (j : Nat) (pa qa : Option Addr) (pc qc : Nat) (p q : List Int), j ≤ vs.length ∧ i = .int .i64 j ∧ p = (pointS vs k).take j ∧ q = (reachS vs zs k).take j ∧ Wd w (.slice a vs.length ca) (.slice b zs.length cb) Q M x wq ∧ Nw X pa pc qa qc p q sh wq)
        (fun i _ => vs.length - (intOf i).toNat)
      case atStart => exact ⟨0, none, none, 0, 0, [], [], Nat.zero_le _, rfl, by simp, by simp, D5, N5⟩
      case round =>
        clear D5 N5
        obtain ⟨j, pa, qa, pc, qc, p, q, hj, rfl, hp, hq, D, N⟩ := hrel
        have HP := Lib.hid hp
        have HQ := Lib.hid hq
        have hpl4 : p.length ≤ 4 := by rw [hp, List.length_take]; omega
        have hql4 : q.length ≤ 4 := by rw [hq, List.length_take]; omega
        clear hp hq
        by_cases hlt2 : j < vs.length
        · have hp1 := map_take_at (fun v => l3 (v == (k : Int))) vs j hlt2
          have hq1 := map_take_at (fun v => l3 (decide ((k : Int) ∈ followed zs v))) vs j hlt2
          obtain ⟨bv, ov, rfl, hbv, hcv⟩ := (HAT.out _ D.s.below).v j _ (intVals_at vs j hlt2)
          have hcv' : wr.drew.cell? ⟨bv, ov + j, none⟩ = some (.int .i64 vs[j]) := hcv
          have hyj := Lib.hid (intVals_at vs j hlt2)
          generalize vs[j] = y at *
          have HP1 := Lib.hid hp1
          have HQ1 := Lib.hid hq1
          have n0 := D.s.arg.c 0 _ rfl
          have n1 := D.s.arg.c 1 _ rfl
          clear hp1 hq1 hcv'
          have hSof : ∀ W, Wd w (.slice (some ⟨bv, ov, none⟩) vs.length ca) (.slice b zs.length cb) Q M x W → W.cell? ⟨w.heap.size, 0, none⟩ = some (.slice (some ⟨bv, ov, none⟩) vs.length ca) ∧ W.cell? ⟨w.heap.size, 1, none⟩ = some (.slice b zs.length cb) ∧ W.cell? ⟨bv, ov + j, none⟩ = some (.int .i64 y) := fun W h => by
            obtain ⟨bv', ov', hbe, hbv', hcv10⟩ := (HAT.out _ h.s.below).v j _ hyj.out
            have he := Option.some.inj hbe
            have h1 : bv = bv' := congrArg Addr.block he
            have h2 : ov = ov' := congrArg Addr.off he
            subst h1 h2
            exact ⟨h.s.arg.c 0 _ rfl, h.s.arg.c 1 _ rfl, hcv10⟩
          have HS := Lib.hid hSof
          have HD := Lib.hid (D.call (Below.drew (Below.refl _ _)))
          have HN := Lib.hid (N.call (Below.drew (Below.refl _ _)))
          have hnl := N.box.lt
          clear D N hSof hcv
          go_wp2
          have hSd : ∀ W, Wd w (.slice (some ⟨bv, ov, none⟩) vs.length ca) (.slice b zs.length cb) Q M x W → Nw X pa pc qa qc p q sh W → (W.cell? ⟨w.heap.size, 0, none⟩ = some (.slice (some ⟨bv, ov, none⟩) vs.length ca) ∧ W.cell? ⟨bv, ov + j, none⟩ = some (.int .i64 y) ∧ W.cell? ⟨X, 0, none⟩ = some (.slice pa p.length pc)) := fun W h h' => ⟨(HS.out W h).1, (HS.out W h).2.2, h'.box.c 0 _ rfl⟩
          have H12 := Lib.hid hSd
          clear hSd
          have S12 := H12.out _ HD.out HN.out
          refine wp_region_keep (S := fun W => W.cell? ⟨w.heap.size, 0, none⟩ = some (.slice (some ⟨bv, ov, none⟩) vs.length ca) ∧ W.cell? ⟨bv, ov + j, none⟩ = some (.int .i64 y) ∧ W.cell? ⟨X, 0, none⟩ = some (.slice pa p.length pc)) (B := fun i => decide (i ≠ 13)) (by kernel_rfl) ?_
          refine anyKeep.take (i := 0) (v := ?_) rfl (by kernel_rfl) (by kernel_rfl) (by kernel_rfl) (by kernel_rfl) (fun _ _ _ h => h) rfl ?_ S12 ?_
          rotate_left
          · rintro w' ⟨h1, h2, h3⟩
            go_simp
            try with_reducible rfl
          try simp only [Act.put, List.setIfInBounds_toArray]
          refine anyKeep.take (i := 1) (v := ?_) rfl (by kernel_rfl) (by kernel_rfl) (by kernel_rfl) (by kernel_rfl) (fun _ _ _ h => h) rfl ?_ S12 ?_
          rotate_left
          · rintro w' ⟨h1, h2, h3⟩
            go_simp
            try with_reducible rfl
          try simp only [Act.put, List.setIfInBounds_toArray]
          refine anyKeep.take (i := 2) (v := ?_) rfl (by kernel_rfl) (by kernel_rfl) (by kernel_rfl) (by kernel_rfl) (fun _ _ _ h => h) rfl ?_ S12 ?_
          rotate_left
          · rintro w' ⟨h1, h2, h3⟩
            go_simp
            try with_reducible rfl
          try simp only [Act.put, List.setIfInBounds_toArray]
          refine anyKeep.take (i := 3) (v := ?_) rfl (by kernel_rfl) (by kernel_rfl) (by kernel_rfl) (by kernel_rfl) (fun _ _ _ h => h) rfl ?_ S12 ?_
          rotate_left
          · rintro w' ⟨h1, h2, h3⟩
            go_simp
            try with_reducible rfl
          try simp only [Act.put, List.setIfInBounds_toArray]
          refine anyKeep.take (i := 4) (v := ?_) rfl (by kernel_rfl) (by kernel_rfl) (by kernel_rfl) (by kernel_rfl) (fun _ _ _ h => h) rfl ?_ S12 ?_
          rotate_left
          · rintro w' ⟨h1, h2, h3⟩
            go_simp
            try with_reducible rfl
          try simp only [Act.put, List.setIfInBounds_toArray]
          refine anyKeep.take (i := 5) (v := ?_) rfl (by kernel_rfl) (by kernel_rfl) (by kernel_rfl) (by kernel_rfl) (fun _ _ _ h => h) rfl ?_ S12 ?_
          rotate_left
          · rintro w' ⟨h1, h2, h3⟩
            go_simp
            try with_reducible rfl
          try simp only [Act.put, List.setIfInBounds_toArray]
          refine anyKeep.take (i := 6) (v := ?_) rfl (by kernel_rfl) (by kernel_rfl) (by kernel_rfl) (by kernel_rfl) (fun _ _ _ h => h) rfl ?_ S12 ?_
          rotate_left
          · rintro w' ⟨h1, h2, h3⟩
            go_simp
            try with_reducible rfl
          try simp only [Act.put, List.setIfInBounds_toArray]
          refine anyKeep.take (i := 7) (v := ?_) rfl (by kernel_rfl) (by kernel_rfl) (by kernel_rfl) (by kernel_rfl) (fun _ _ _ h => h) rfl ?_ S12 ?_
          rotate_left
          · rintro w' ⟨h1, h2, h3⟩
            go_simp
            try with_reducible rfl
          try simp only [Act.put, List.setIfInBounds_toArray]
          refine anyKeep.take (i := 8) (v := ?_) rfl (by kernel_rfl) (by kernel_rfl) (by kernel_rfl) (by kernel_rfl) (fun _ _ _ h => h) rfl ?_ S12 ?_
          rotate_left
          · rintro w' ⟨h1, h2, h3⟩
            go_simp
            try with_reducible rfl
          try simp only [Act.put, List.setIfInBounds_toArray]
          refine anyKeep.one (k := 9) (by kernel_rfl) rfl (fun K hK => ?_)
          go_simp
          go_at_call 119
          (with_reducible refine (specL3 (y == (k : Int)) _).mono ?_)
          rintro e w5 ⟨rfl, hb5⟩
          have N5 := HN.out.call hb5
          have D5 := HD.out.call hb5
          clear S12
          refine hK _ _ (fun _ => H12.out _ D5 N5) ?_
          clear hK K
          try simp only [Act.put, List.setIfInBounds_toArray, List.set_cons_zero, List.set_cons_succ]
          have z5 := N5.box.lt
          have hal := (Below.refl w5.heap.size w5).alloc (Nat.le_refl _) (.cells #[.int .i64 (l3 (y == (k : Int)))] 3)
          have D6 := D5.call hal
          have N6 := N5.call hal
          refine anyKeep.one (k := 10) (by kernel_rfl) rfl (fun K hK => ?_)
          go_simp
          refine hK _ _ (fun _ => H12.out _ D6 N6) ?_
          clear hK K
          try simp only [Act.put, List.setIfInBounds_toArray, List.set_cons_zero, List.set_cons_succ]
          refine anyKeep.one (k := 11) (by kernel_rfl) rfl (fun K hK => ?_)
          refine step_append_lies _ rfl (.tmp 49) (.tmp 58) 25 rfl (X + 1) 3 i0 (.int .i64 0) 1 8 Tryz.underlying25 hi hz0 hz1 hz2 rfl (by decide) (.slice pa p.length pc) p.length (intVals p) ?_ N6.v.2.1 ⟨w5.heap.size, 0, none⟩ 1 1 [.int .i64 (l3 (y == (k : Int)))] ?_ rfl ?_ ?_ (by omega) ?_ ?_ ?_ _ rfl ?_
          · simp [Act.eval]
          · simp [Act.eval]
          · exact oneCell_at (w := w5) _
          · exact oneCell_int _
          · unfold maxLen; omega
          · omega
          · exact Nat.le_trans (Nat.succ_le_of_lt z5) (by simp)
          intro g9 cap9 w9 hown9 hg9 hat9 hlt9
          have T9 := Turn.of_grown (lo := X + 1) (hi := w9.heap.size) hg9 (fun j hj => ⟨(N6.v.2.1.lt j hj).1, Nat.lt_of_lt_of_le (N6.v.2.1.lt j hj).2 hg9.size⟩)
          have D9 := D6.turn T9 (by omega) hQM hwQ
          have d9 := (N6.box1 hg9).c 0 _ rfl
          have pf9 := (N6.box1 hg9).f
          refine hK _ _ (fun _ => ⟨(HS.out _ D9).1, (HS.out _ D9).2.2, d9⟩) ?_
          clear hK K
          try simp only [Act.put, List.setIfInBounds_toArray, List.set_cons_zero, List.set_cons_succ]
          refine anyKeep.one (k := 12) (by kernel_rfl) rfl (fun K hK => ?_)
          go_simp
          refine hK _ _ (fun _ => ⟨(HS.out _ D9).1, (HS.out _ D9).2.2, d9⟩) ?_
          clear hK K
          try simp only [Act.put, List.setIfInBounds_toArray, List.set_cons_zero, List.set_cons_succ]
          refine anyKeep.one (k := 13) (by kernel_rfl) rfl (fun K hK => ?_)
          go_simp
          refine hK _ _ (fun e => by simp at e) ?_
          clear hK K
          try simp only [Act.put, List.setIfInBounds_toArray, List.set_cons_zero, List.set_cons_succ]
          refine anyKeep.done (by kernel_rfl) ?_
          have N10 := N6.first hown9 hg9 (hat9.elim (fun e => .inl e.symm) (fun e => .inr (congrArg some e)))
          have D10 := D9.turn (turn_set w9 X 0 (.slice (some ⟨g9, 0, none⟩) (p.length + 1) cap9)) (by omega) hQM hwQ
          clear hb5 N5 D5 D6 N6 hal hown9 hg9 hat9 hlt9 T9 D9 d9 pf9 H12 HD HN
          generalize w9.setCell ⟨X, 0, none⟩ (.slice (some ⟨g9, 0, none⟩) (p.length + 1) cap9) = W10 at *
          have n0 := D10.s.arg.c 0 _ rfl
          have HD := Lib.hid (D10.call (Below.drew (Below.refl _ _)))
          have HN := Lib.hid (N10.call (Below.drew (Below.refl _ _)))
          clear D10 N10
          go_wp2
          have hfl := (followed_ok zs y).len
          have hz1048 : (followed zs y).length ≤ 1048576 := by omega
          have HPP := Lib.hid (show p ++ [l3 (y == (k : Int))] = (pointS vs k).take (j + 1) from by rw [HP.out]; exact HP1.out.symm)
          have HQQ := Lib.hid (show q ++ [l3 (decide ((k : Int) ∈ followed zs y))] = (reachS vs zs k).take (j + 1) from by rw [HQ.out]; exact HQ1.out.symm)
          clear HP HQ HP1 HQ1
          generalize p ++ [l3 (y == (k : Int))] = p' at *
          have hSd : ∀ W, Wd w (.slice (some ⟨bv, ov, none⟩) vs.length ca) (.slice b zs.length cb) Q M x W → Nw X (some ⟨g9, 0, none⟩) cap9 qa qc p' q sh W → (W.cell? ⟨w.heap.size, 0, none⟩ = some (.slice (some ⟨bv, ov, none⟩) vs.length ca) ∧ W.cell? ⟨w.heap.size, 1, none⟩ = some (.slice b zs.length cb) ∧ W.cell? ⟨bv, ov + j, none⟩ = some (.int .i64 y) ∧ W.cell? ⟨X, 1, none⟩ = some (.slice qa q.length qc)) := fun W h h' => ⟨(HS.out W h).1, (HS.out W h).2.1, (HS.out W h).2.2, h'.box.c 1 _ rfl⟩
          have H13 := Lib.hid hSd
          clear hSd n0
          have S13 := H13.out _ HD.out HN.out
          refine wp_region_keep (S := fun W => W.cell? ⟨w.heap.size, 0, none⟩ = some (.slice (some ⟨bv, ov, none⟩) vs.length ca) ∧ W.cell? ⟨w.heap.size, 1, none⟩ = some (.slice b zs.length cb) ∧ W.cell? ⟨bv, ov + j, none⟩ = some (.int .i64 y) ∧ W.cell? ⟨X, 1, none⟩ = some (.slice qa q.length qc)) (B := fun i => decide (i ≠ 15)) (by kernel_rfl) ?_
          refine anyKeep.take (i := 0) (v := ?_) rfl (by kernel_rfl) (by kernel_rfl) (by kernel_rfl) (by kernel_rfl) (fun _ _ _ h => h) rfl ?_ S13 ?_
          rotate_left
          · rintro w' ⟨h1, h2, h3, h4⟩
            go_simp
            try with_reducible rfl
          try simp only [Act.put, List.setIfInBounds_toArray]
          refine anyKeep.take (i := 1) (v := ?_) rfl (by kernel_rfl) (by kernel_rfl) (by kernel_rfl) (by kernel_rfl) (fun _ _ _ h => h) rfl ?_ S13 ?_
          rotate_left
          · rintro w' ⟨h1, h2, h3, h4⟩
            go_simp
            try with_reducible rfl
          try simp only [Act.put, List.setIfInBounds_toArray]
          refine anyKeep.take (i := 2) (v := ?_) rfl (by kernel_rfl) (by kernel_rfl) (by kernel_rfl) (by kernel_rfl) (fun _ _ _ h => h) rfl ?_ S13 ?_
          rotate_left
          · rintro w' ⟨h1, h2, h3, h4⟩
            go_simp
            try with_reducible rfl
          try simp only [Act.put, List.setIfInBounds_toArray]
          refine anyKeep.take (i := 3) (v := ?_) rfl (by kernel_rfl) (by kernel_rfl) (by kernel_rfl) (by kernel_rfl) (fun _ _ _ h => h) rfl ?_ S13 ?_
          rotate_left
          · rintro w' ⟨h1, h2, h3, h4⟩
            go_simp
            try with_reducible rfl
          try simp only [Act.put, List.setIfInBounds_toArray]
          refine anyKeep.take (i := 4) (v := ?_) rfl (by kernel_rfl) (by kernel_rfl) (by kernel_rfl) (by kernel_rfl) (fun _ _ _ h => h) rfl ?_ S13 ?_
          rotate_left
          · rintro w' ⟨h1, h2, h3, h4⟩
            go_simp
            try with_reducible rfl
          try simp only [Act.put, List.setIfInBounds_toArray]
          refine anyKeep.take (i := 5) (v := ?_) rfl (by kernel_rfl) (by kernel_rfl) (by kernel_rfl) (by kernel_rfl) (fun _ _ _ h => h) rfl ?_ S13 ?_
          rotate_left
          · rintro w' ⟨h1, h2, h3, h4⟩
            go_simp
            try with_reducible rfl
          try simp only [Act.put, List.setIfInBounds_toArray]
          refine anyKeep.take (i := 6) (v := ?_) rfl (by kernel_rfl) (by kernel_rfl) (by kernel_rfl) (by kernel_rfl) (fun _ _ _ h => h) rfl ?_ S13 ?_
          rotate_left
          · rintro w' ⟨h1, h2, h3, h4⟩
            go_simp
            try with_reducible rfl
          try simp only [Act.put, List.setIfInBounds_toArray]
          refine anyKeep.take (i := 7) (v := ?_) rfl (by kernel_rfl) (by kernel_rfl) (by kernel_rfl) (by kernel_rfl) (fun _ _ _ h => h) rfl ?_ S13 ?_
          rotate_left
          · rintro w' ⟨h1, h2, h3, h4⟩
            go_simp
            try with_reducible rfl
          try simp only [Act.put, List.setIfInBounds_toArray]
          refine anyKeep.take (i := 9) (v := ?_) rfl (by kernel_rfl) (by kernel_rfl) (by kernel_rfl) (by kernel_rfl) (fun _ _ _ h => h) rfl ?_ S13 ?_
          rotate_left
          · rintro w' ⟨h1, h2, h3, h4⟩
            go_simp
            try with_reducible rfl
          try simp only [Act.put, List.setIfInBounds_toArray]
          refine anyKeep.one (k := 8) (by kernel_rfl) rfl (fun K hK => ?_)
          go_simp
          go_at_call 129
          (with_reducible refine (specFollowed _ b vs.length ca cb zs y _ hz (HAT.out _ HD.out.s.below).z).mono ?_)
          rintro e w5 ⟨fa, fc, rfl, hfc, hfo, hb5⟩
          rw [intVals_length]
          have N5 := HN.out.call hb5
          have D5 := HD.out.call hb5
          have f5 := (OwnIn.of hfo).rowIn.row
          clear S13 hfo hfc
          refine hK _ _ (fun _ => H13.out _ D5 N5) ?_
          clear hK K
          try simp only [Act.put, List.setIfInBounds_toArray, List.set_cons_zero, List.set_cons_succ]
          refine anyKeep.one (k := 10) (by kernel_rfl) rfl (fun K hK => ?_)
          go_simp
          go_at_call 53
          (with_reducible refine (specHas fa fc (followed zs y) (k : Int) _ hz1048 f5).mono ?_)
          rintro e w6 ⟨rfl, hb6⟩
          have N6 := N5.call hb6
          have D6 := D5.call hb6
          refine hK _ _ (fun _ => H13.out _ D6 N6) ?_
          clear hK K
          try simp only [Act.put, List.setIfInBounds_toArray, List.set_cons_zero, List.set_cons_succ]
          refine anyKeep.one (k := 11) (by kernel_rfl) rfl (fun K hK => ?_)
          go_simp
          go_at_call 119
          (with_reducible refine (specL3 (decide ((k : Int) ∈ followed zs y)) _).mono ?_)
          rintro e w7 ⟨rfl, hb7⟩
          have N7 := N6.call hb7
          have D7 := D6.call hb7
          refine hK _ _ (fun _ => H13.out _ D7 N7) ?_
          clear hK K
          try simp only [Act.put, List.setIfInBounds_toArray, List.set_cons_zero, List.set_cons_succ]
          have z7 := N7.box.lt
          generalize l3 (decide ((k : Int) ∈ followed zs y)) = rz at *
          have hal := (Below.refl w7.heap.size w7).alloc (Nat.le_refl _) (.cells #[.int .i64 rz] 3)
          have D8 := D7.call hal
          have N8 := N7.call hal
          clear N5 D5 f5 N6 D6 N7 D7 hb5 hb6 hb7
          refine anyKeep.one (k := 12) (by kernel_rfl) rfl (fun K hK => ?_)
          go_simp
          refine hK _ _ (fun _ => H13.out _ D8 N8) ?_
          clear hK K
          try simp only [Act.put, List.setIfInBounds_toArray, List.set_cons_zero, List.set_cons_succ]
          refine anyKeep.one (k := 13) (by kernel_rfl) rfl (fun K hK => ?_)
          refine step_append_lies _ rfl (.tmp 62) (.tmp 73) 25 rfl (X + 1) 3 i0 (.int .i64 0) 1 8 Tryz.underlying25 hi hz0 hz1 hz2 rfl (by decide) (.slice qa q.length qc) q.length (intVals q) ?_ N8.z.2.1 ⟨w7.heap.size, 0, none⟩ 1 1 [.int .i64 rz] ?_ rfl ?_ ?_ (by omega) ?_ ?_ ?_ _ rfl ?_
          · simp [Act.eval]
          · simp [Act.eval]
          · exact oneCell_at (w := w7) _
          · exact oneCell_int _
          · unfold maxLen; omega
          · omega
          · exact Nat.le_trans (Nat.succ_le_of_lt z7) (by simp)
          intro gA capA wA hownA hgA hatA hltA
          have TA := Turn.of_grown (lo := X + 1) (hi := wA.heap.size) hgA (fun j hj => ⟨(N8.z.2.1.lt j hj).1, Nat.lt_of_lt_of_le (N8.z.2.1.lt j hj).2 hgA.size⟩)
          have D9 := D8.turn TA (by omega) hQM hwQ
          have d9 := (N8.box2 hgA).c 1 _ rfl
          have pf9 := (N8.box2 hgA).f
          refine hK _ _ (fun _ => ⟨(HS.out _ D9).1, (HS.out _ D9).2.1, (HS.out _ D9).2.2, d9⟩) ?_
          clear hK K
          try simp only [Act.put, List.setIfInBounds_toArray, List.set_cons_zero, List.set_cons_succ]
          refine anyKeep.one (k := 14) (by kernel_rfl) rfl (fun K hK => ?_)
          go_simp
          refine hK _ _ (fun _ => ⟨(HS.out _ D9).1, (HS.out _ D9).2.1, (HS.out _ D9).2.2, d9⟩) ?_
          clear hK K
          try simp only [Act.put, List.setIfInBounds_toArray, List.set_cons_zero, List.set_cons_succ]
          refine anyKeep.one (k := 15) (by kernel_rfl) rfl (fun K hK => ?_)
          go_simp
          refine hK _ _ (fun e => by simp at e) ?_
          clear hK K
          try simp only [Act.put, List.setIfInBounds_toArray, List.set_cons_zero, List.set_cons_succ]
          refine anyKeep.done (by kernel_rfl) ?_
          have NB := N8.second hownA hgA (hatA.elim (fun e => .inl e.symm) (fun e => .inr (congrArg some e)))
          have DB := D9.turn (turn_set wA X 1 (.slice (some ⟨gA, 0, none⟩) (q.length + 1) capA)) (by omega) hQM hwQ
          clear hal hownA hgA hatA hltA TA D9 d9 pf9 H13 HD HN D8 N8
          generalize wA.setCell ⟨X, 1, none⟩ (.slice (some ⟨gA, 0, none⟩) (q.length + 1) capA) = WB at *
          go_wp2
          go_roundw
          case rel => exact ⟨j + 1, _, _, _, _, _, _, by omega, by go_num, HPP.out, HQQ.out, DB, NB⟩
          case measure => simp [intOf]; omega
        · have hjv : j = vs.length := by omega
          have hpv : p = pointS vs k := by have := HP.out; rwa [hjv, List.take_of_length_le (by simp [pointS])] at this
          have hqv : q = reachS vs zs k := by have := HQ.out; rwa [hjv, List.take_of_length_le (by simp [reachS])] at this
          have hxl : x.ns.length = k := by have := congrArg (fun s => s.1.length) HB.out; simpa [St.body, nodesOfS] using this
          have hzl : x.zs.length = k * zs.length := by have := congrArg (fun s => s.2.length) HB.out; simpa [St.body, nextsOfS_length zs k hk] using this
          have hnx : x.ns.length ≤ 10 := by omega
          have hzx : x.zs.length ≤ 100 := by rw [hzl]; exact Nat.le_trans (Nat.mul_le_mul hk (Nat.le_refl _)) (Nat.mul_le_mul hn hn)
          have HXL := Lib.hid hxl
          have HZL := Lib.hid hzl
          have HPV := Lib.hid hpv
          have HQV := Lib.hid hqv
          clear hjv hpv hqv hxl hzl HP HQ
          have n0 := D.s.arg.c 0 _ rfl
          have o0 := D.bx.c 0 _ rfl
          have of_ := D.bx.f
          have x0 := N.box.c 0 _ rfl
          have x1 := N.box.c 1 _ rfl
          have x2 := N.box.c 2 _ rfl
          have x3 := N.box.c 3 _ rfl
          have hXl := N.box.lt
          have HD := Lib.hid D
          have HN := Lib.hid N
          clear D N
          have hal := (Below.refl wr.heap.size wr).alloc (Nat.le_refl _) (.cells #[.slice pa p.length pc, .slice qa q.length qc, .int .i64 sh, .int .i64 0] 56)
          have hxa := HD.out.xin.below hal
          have hG6 : Sg Q x (wr.alloc (.cells #[.slice pa p.length pc, .slice qa q.length qc, .int .i64 sh, .int .i64 0] 56)) := ⟨HD.out.bx.below hal, hxa.mono (Nat.le_refl _) hxa.le (Nat.le_refl _)⟩
          have HG6 := Lib.hid hG6
          have HXA := Lib.hid hxa
          have HAL := Lib.hid hal
          clear hG6 hxa hal
          go_wp2_with (first
            | (at_builtin; refine wpList_append_own_at _ rfl (.tmp 77) (.tmp 79) 24 rfl (Q + 1) 56 j0 (.agg #[.slice none 0 0, .slice none 0 0, .int .i64 0, .int .i64 0]) 4 64 Tryz.underlying24 hjn hy0 hy1 hy2 rfl (by decide) (.slice x.a x.ns.length x.ca) x.ns.length (ndVals x.ns) rfl (HD.out.xin.nodes.2.1.alloc _) ⟨wr.heap.size, 0, none⟩ 1 1 [.slice pa p.length pc, .slice qa q.length qc, .int .i64 sh, .int .i64 0] rfl rfl ?_ ?_ ?_ ?_ ?_ ?_; (focus exact lit4_news _ _ _ _ _ _); (focus exact lit4_one _ _ _ _ _ _ _ _); (focus (unfold maxLen; omega)); (focus omega); (focus (simp; omega)); intro v6 w6 hown6 hg6 _ hloc6; obtain ⟨va6, vc6, rfl, _⟩ := own_shape hown6; have b6 := HG6.out.boxg (v := x.va) hg6 (fun k hk => (HD.out.xin.nodes.2.1.lt k hk).1); have o6 := b6.c 0 _ rfl; have f6 := b6.f; have HO6 := Lib.hid hown6; have HG := Lib.hid hg6; have HL6 := Lib.hid hloc6; clear o0 of_ b6 hown6 hg6 hloc6)
            | fail)
          have G7 := HG6.out.push HXA.out (y := ⟨⟨pa, pc, qa, qc, p, q⟩, sh, 0⟩) (HN.out.call HAL.out).in_ (by omega) (by omega) HO6.out HG.out HL6.out
          have T7 : Turn Q (w6.heap.size) (wr.alloc (.cells #[.slice pa p.length pc, .slice qa q.length qc, .int .i64 sh, .int .i64 0] 56)) (w6.setCell ⟨Q, 0, none⟩ (.slice va6 (x.ns.length + 1) vc6)) :=
            (Turn.of_grown (lo := Q) HG.out (fun j hj => ⟨by have := (HXA.out.nodes.2.1.lt j hj).1; omega, Nat.lt_of_lt_of_le (HXA.out.nodes.2.1.lt j hj).2 HG.out.size⟩)).trans ((turn_set _ _ _ _).mono (Nat.le_refl _) (by have := HG.out.size; simp at this; omega))
          have S7 := (HD.out.s.call HAL.out).turn T7 (by omega)
          have hb7 : St.body ⟨va6, vc6, x.ns ++ [⟨⟨pa, pc, qa, qc, p, q⟩, sh, 0⟩], x.b, x.cb, x.zs⟩ = (nodesOfS vs zs (k + 1), nextsOfS zs k ++ (nextRow zs.length zs[k]).take 0) := by
            have h1 := HB.out
            simp only [St.body, Prod.mk.injEq] at h1 ⊢
            rw [List.map_append, h1.1, h1.2, nodesOfS_next, List.take_zero, List.append_nil, HPV.out, HQV.out]
            refine ⟨?_, rfl⟩
            rw [HSH.out]
            rfl
          have HB7 := Lib.hid hb7
          clear hb7 T7
          generalize w6.setCell ⟨Q, 0, none⟩ (.slice va6 (x.ns.length + 1) vc6) = W7 at *
          clear x0 x1 x2 x3 o6 f6 n0 HO6 HG HL6 HG6 HXA HAL HD HN
          go_loopw [8] (fun i wq => ∃ (j : Nat) (x3 : St), j ≤ zs.length ∧ i = .int .i64 j ∧ x3.body = (nodesOfS vs zs (k + 1), nextsOfS zs k ++ (nextRow zs.length zs[k]).take j) ∧ Sw w (.slice a vs.length ca) (.slice b zs.length cb) wq ∧ Sg Q x3 wq)
            (fun i _ => zs.length - (intOf i).toNat)
          case atStart => exact ⟨0, _, Nat.zero_le _, rfl, HB7.out, S7, G7⟩
          case round =>
            clear S7 G7 HB7
            obtain ⟨j, x3, hj, rfl, hb3, S3, G3⟩ := hrel
            have HB3 := Lib.hid hb3
            have hl3 : x3.zs.length ≤ 110 := by
              have h1 := congrArg (fun s => s.2.length) hb3
              simp only [St.body, List.length_append, List.length_take, nextsOfS_length zs k hk] at h1
              have := Nat.mul_le_mul hk hn
              have := Nat.mul_le_mul hn hn
              omega
            clear hb3
            have n0 := S3.arg.c 0 _ rfl
            by_cases hlt3 : j < zs.length
            · obtain ⟨bz, oz, rfl, hbz, hcz⟩ := (HAT.out _ S3.below).z k _ (intVals_at zs k hlt)
              have hnx3 := nextRow_take zs.length zs[k] j hlt3
              have hzk := Lib.hid (intVals_at zs k hlt)
              generalize zs[k] = z at *
              have HNX3 := Lib.hid hnx3
              clear hnx3
              have HS := Lib.hid (fun (W : World) (h : Sw w (.slice a vs.length ca) (.slice (some ⟨bz, oz, none⟩) zs.length cb) W) (h' : Sg Q x3 W) => show W.cell? ⟨w.heap.size, 1, none⟩ = some (.slice (some ⟨bz, oz, none⟩) zs.length cb) ∧ W.cell? ⟨bz, oz + k, none⟩ = some (.int .i64 z) ∧ W.cell? ⟨Q, 1, none⟩ = some (.slice x3.b x3.zs.length x3.cb) from by
                obtain ⟨bv', ov', hbe, hbv', hcv10⟩ := (HAT.out _ h.below).z k _ hzk.out
                have he := Option.some.inj hbe
                have h1 : bz = bv' := congrArg Addr.block he
                have h2 : oz = ov' := congrArg Addr.off he
                subst h1 h2
                exact ⟨h.arg.c 1 _ rfl, hcv10, h'.box.c 1 _ rfl⟩)
              have HS3 := Lib.hid (S3.call (Below.drew (Below.refl _ _)))
              have HG3 := Lib.hid (G3.call (Below.drew (Below.refl _ _)))
              clear S3 G3 hcz n0
              go_wp2
              have S18 := HS.out _ HS3.out HG3.out
              refine wp_region_keep (S := fun W => W.cell? ⟨w.heap.size, 1, none⟩ = some (.slice (some ⟨bz, oz, none⟩) zs.length cb) ∧ W.cell? ⟨bz, oz + k, none⟩ = some (.int .i64 z) ∧ W.cell? ⟨Q, 1, none⟩ = some (.slice x3.b x3.zs.length x3.cb)) (B := fun i => decide (i ≠ 13)) (by kernel_rfl) ?_
              refine anyKeep.take (i := 0) (v := ?_) rfl (by kernel_rfl) (by kernel_rfl) (by kernel_rfl) (by kernel_rfl) (fun _ _ _ h => h) rfl ?_ S18 ?_
              rotate_left
              · rintro w' ⟨h1, h2, h3⟩
                go_simp
                try with_reducible rfl
              try simp only [Act.put, List.setIfInBounds_toArray]
              refine anyKeep.take (i := 1) (v := ?_) rfl (by kernel_rfl) (by kernel_rfl) (by kernel_rfl) (by kernel_rfl) (fun _ _ _ h => h) rfl ?_ S18 ?_
              rotate_left
              · rintro w' ⟨h1, h2, h3⟩
                go_simp
                try with_reducible rfl
              try simp only [Act.put, List.setIfInBounds_toArray]
              refine anyKeep.take (i := 2) (v := ?_) rfl (by kernel_rfl) (by kernel_rfl) (by kernel_rfl) (by kernel_rfl) (fun _ _ _ h => h) rfl ?_ S18 ?_
              rotate_left
              · rintro w' ⟨h1, h2, h3⟩
                go_simp
                try with_reducible rfl
              try simp only [Act.put, List.setIfInBounds_toArray]
              refine anyKeep.take (i := 3) (v := ?_) rfl (by kernel_rfl) (by kernel_rfl) (by kernel_rfl) (by kernel_rfl) (fun _ _ _ h => h) rfl ?_ S18 ?_
              rotate_left
              · rintro w' ⟨h1, h2, h3⟩
                go_simp
                try with_reducible rfl
              try simp only [Act.put, List.setIfInBounds_toArray]
              refine anyKeep.take (i := 4) (v := ?_) rfl (by kernel_rfl) (by kernel_rfl) (by kernel_rfl) (by kernel_rfl) (fun _ _ _ h => h) rfl ?_ S18 ?_
              rotate_left
              · rintro w' ⟨h1, h2, h3⟩
                go_simp
                try with_reducible rfl
              try simp only [Act.put, List.setIfInBounds_toArray]
              refine anyKeep.take (i := 5) (v := ?_) rfl (by kernel_rfl) (by kernel_rfl) (by kernel_rfl) (by kernel_rfl) (fun _ _ _ h => h) rfl ?_ S18 ?_
              rotate_left
              · rintro w' ⟨h1, h2, h3⟩
                go_simp
                try with_reducible rfl
              try simp only [Act.put, List.setIfInBounds_toArray]
              refine anyKeep.take (i := 6) (v := ?_) rfl (by kernel_rfl) (by kernel_rfl) (by kernel_rfl) (by kernel_rfl) (fun _ _ _ h => h) rfl ?_ S18 ?_
              rotate_left
              · rintro w' ⟨h1, h2, h3⟩
                go_simp
                try with_reducible rfl
              try simp only [Act.put, List.setIfInBounds_toArray]
              refine anyKeep.take (i := 7) (v := ?_) rfl (by kernel_rfl) (by kernel_rfl) (by kernel_rfl) (by kernel_rfl) (fun _ _ _ h => h) rfl ?_ S18 ?_
              rotate_left
              · rintro w' ⟨h1, h2, h3⟩
                go_simp
                try with_reducible rfl
              try simp only [Act.put, List.setIfInBounds_toArray]
              refine anyKeep.take (i := 8) (v := ?_) rfl (by kernel_rfl) (by kernel_rfl) (by kernel_rfl) (by kernel_rfl) (fun _ _ _ h => h) rfl ?_ S18 ?_
              rotate_left
              · rintro w' ⟨h1, h2, h3⟩
                go_simp
                try with_reducible rfl
              try simp only [Act.put, List.setIfInBounds_toArray]
              refine anyKeep.one (k := 9) (by kernel_rfl) rfl (fun K hK => ?_)
              go_simp
              go_at_call 119
              (with_reducible refine (specL3 (z == (j : Int)) _).mono ?_)
              rintro e w5 ⟨rfl, hb5⟩
              have S5 := HS3.out.call hb5
              have G5 := HG3.out.call hb5
              clear S18
              refine hK _ _ (fun _ => HS.out _ S5 G5) ?_
              clear hK K
              try simp only [Act.put, List.setIfInBounds_toArray, List.set_cons_zero, List.set_cons_succ]
              have z5 := G5.box.lt
              generalize l3 (z == (j : Int)) = rz at *
              have hal := (Below.refl w5.heap.size w5).alloc (Nat.le_refl _) (.cells #[.int .i64 rz] 3)
              have S6 := S5.call hal
              have G6 := G5.call hal
              refine anyKeep.one (k := 10) (by kernel_rfl) rfl (fun K hK => ?_)
              go_simp
              refine hK _ _ (fun _ => HS.out _ S6 G6) ?_
              clear hK K
              try simp only [Act.put, List.setIfInBounds_toArray, List.set_cons_zero, List.set_cons_succ]
              refine anyKeep.one (k := 11) (by kernel_rfl) rfl (fun K hK => ?_)
              refine step_append_lies _ rfl (.tmp 88) (.tmp 97) 25 rfl (Q + 1) 3 i0 (.int .i64 0) 1 8 Tryz.underlying25 hi hz0 hz1 hz2 rfl (by decide) (.slice x3.b x3.zs.length x3.cb) x3.zs.length (intVals x3.zs) ?_ G6.in_.next.2.1 ⟨w5.heap.size, 0, none⟩ 1 1 [.int .i64 rz] ?_ rfl ?_ ?_ (by omega) ?_ ?_ ?_ _ rfl ?_
              · simp [Act.eval]
              · simp [Act.eval]
              · exact oneCell_at (w := w5) _
              · exact oneCell_int _
              · unfold maxLen; omega
              · omega
              · exact Nat.le_trans (Nat.succ_le_of_lt z5) (by simp)
              intro g9 cap9 w9 hown9 hg9 hat9 hlt9
              have T9 := Turn.of_grown (lo := Q + 1) (hi := w9.heap.size) hg9 (fun j hj => ⟨(G6.in_.next.2.1.lt j hj).1, Nat.lt_of_lt_of_le (G6.in_.next.2.1.lt j hj).2 hg9.size⟩)
              have S9 := S6.turn T9 (by omega)
              have b9 := G6.boxg (v := x3.vb) hg9 (fun k hk => (G6.in_.next.2.1.lt k hk).1)
              have d9 := b9.c 1 _ rfl
              have pf9 := b9.f
              have hk9 : w9.cell? ⟨bz, oz + k, none⟩ = some (.int .i64 z) := by
                obtain ⟨bv', ov', hbe, hbv', hcv10⟩ := (HAT.out _ S9.below).z k _ hzk.out
                have he := Option.some.inj hbe
                have h1 : bz = bv' := congrArg Addr.block he
                have h2 : oz = ov' := congrArg Addr.off he
                subst h1 h2
                exact hcv10
              refine hK _ _ (fun _ => ⟨S9.arg.c 1 _ rfl, hk9, d9⟩) ?_
              clear hK K
              try simp only [Act.put, List.setIfInBounds_toArray, List.set_cons_zero, List.set_cons_succ]
              refine anyKeep.one (k := 12) (by kernel_rfl) rfl (fun K hK => ?_)
              go_simp
              refine hK _ _ (fun _ => ⟨S9.arg.c 1 _ rfl, hk9, d9⟩) ?_
              clear hK K
              try simp only [Act.put, List.setIfInBounds_toArray, List.set_cons_zero, List.set_cons_succ]
              refine anyKeep.one (k := 13) (by kernel_rfl) rfl (fun K hK => ?_)
              go_simp
              refine hK _ _ (fun e => by simp at e) ?_
              clear hK K
              try simp only [Act.put, List.setIfInBounds_toArray, List.set_cons_zero, List.set_cons_succ]
              refine anyKeep.done (by kernel_rfl) ?_
              have GA := G6.pair hown9 hg9 (hat9.elim (fun e => .inl e.symm) (fun e => .inr (congrArg some e)))
              have SA := S9.turn (turn_set w9 Q 1 (.slice (some ⟨g9, 0, none⟩) (x3.zs.length + 1) cap9)) (by omega)
              have hbA : St.body { x3 with b := some ⟨g9, 0, none⟩, cb := cap9, zs := x3.zs ++ [rz] } = (nodesOfS vs zs (k + 1), nextsOfS zs k ++ (nextRow zs.length z).take (j + 1)) := by
                have h1 := HB3.out
                simp only [St.body, Prod.mk.injEq] at h1 ⊢
                rw [h1.1, h1.2, HNX3.out, List.append_assoc]
                exact ⟨rfl, rfl⟩
              have HBA := Lib.hid hbA
              clear hb5 S5 G5 S6 G6 hal hown9 hg9 hat9 hlt9 T9 S9 b9 d9 pf9 hk9 HS HS3 HG3 hbA
              generalize w9.setCell ⟨Q, 1, none⟩ (.slice (some ⟨g9, 0, none⟩) (x3.zs.length + 1) cap9) = WB at *
              go_wp2
              go_roundw
              case rel => exact ⟨j + 1, _, by omega, by go_num, HBA.out, SA, GA⟩
              case measure => simp [intOf]; omega
            · have hjz : j = zs.length := by omega
              have hbE : x3.body = (nodesOfS vs zs (k + 1), nextsOfS zs (k + 1)) := by
                rw [HB3.out, hjz, List.take_of_length_le (by rw [nextRow_length]; exact Nat.le_refl _), nextsOfS_next zs k hlt]
              have HBE := Lib.hid hbE
              clear hbE hjz
              go_wp2
              go_roundw
              case rel => exact ⟨k + 1, x3, by omega, by go_num, HBE.out, S3, G3⟩
              case measure => simp [intOf]; omega
    · have hkz : k = zs.length := by omega
      have hbE : x.body = structB vs zs := by
        rw [HB.out, hkz, structB, if_pos HOK.out]
      have HBE := Lib.hid hbE
      clear hbE hkz
      have o0 := G.box.c 0 _ rfl
      have o1 := G.box.c 1 _ rfl
      have r0 := S.res.c 0 _ rfl
      have r1 := S.res.c 1 _ rfl
      have rf := S.res.f
      have hQr := G.box.lt
      go_wp2
      refine bodyPost_ret (v := x.v) (by simp [results, Tryz.results104, go_sem, r0, r1]) rfl ?_
      have tq : Turn (w.heap.size + 1) (w.heap.size + 2) wr ((wr.setCell ⟨w.heap.size + 1, 0, none⟩ (.slice x.a x.ns.length x.ca)).setCell ⟨w.heap.size + 1, 1, none⟩ (.slice x.b x.zs.length x.cb)) := (turn_set _ _ _ _).trans (turn_set _ _ _ _)
      exact ⟨x, HBE.out, rfl, (G.in_.turn tq (.inr (by omega))).mono (by omega) tq.size (Nat.le_refl _), tq.below S.below (by omega) S.below.size⟩
end Go.Proofs.YtglcailcdcpadaaGreatDoor
