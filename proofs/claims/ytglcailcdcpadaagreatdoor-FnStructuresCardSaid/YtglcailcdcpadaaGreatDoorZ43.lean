/-
  The draw of a structure: the abstraction of a heap, sometimes with fewer known values: of what is drawn only the sizes are told.
-/
import Derived.Test.YtglcailcdcpadaaGreatDoorZ41
import Derived.Test.YtglcailcdcpadaaGreatDoorZ42
import Derived.Test.YtglcailcdcpadaaGreatDoorZ36
import Derived.Test.YtglcailcdcpadaaGreatDoorZ37
namespace Go.Proofs.YtglcailcdcpadaaGreatDoor
open Go Go.RowKit Go.ChangeAt Go.ChangeShapes Go.WideShapes

/-- The sizes of what is drawn. -/
structure DrB (s : SBody) : Prop where
  n : s.1.length ≤ 5
  z : s.2.length = s.1.length * s.1.length
  each : ∀ y ∈ s.1, y.1.1.length = 3 ∧ y.1.2.length = 3
theorem structB_dr {vs zs : List Int} (hv : vs.length = 3) (hz : zs.length ≤ 5) : DrB (structB vs zs) := by
  have h1 := structB_ok vs zs (by omega)
  have h2 := structB_lens vs zs
  refine ⟨by omega, by rcases h2 with ⟨h3, h4⟩ | ⟨h3, h4⟩ <;> rw [h3, h4], fun y hy => ?_⟩
  unfold stB at h1
  simp only [Bool.and_eq_true, List.all_eq_true] at h1
  have h3 := h1.1.2 y hy
  unfold ndB at h3
  simp only [Bool.and_eq_true, decide_eq_true_eq] at h3
  omega
theorem blurB_dr {s : SBody} (h : DrB s) : DrB (blurB s) := by
  unfold blurB
  split
  · exact ⟨by simp, rfl, fun y hy => by simp at hy⟩
  · split
    · have hok := groupsTo_ok s s.1.length
      have hl : (groupsB s).length ≤ 5 := by
        simp only [groupsB, List.length_map]
        exact Nat.le_trans hok.len h.n
      refine ⟨by simpa using hl, ?_, fun y hy => ?_⟩
      · have := nextsG_length s (groupsB s) (groupsB s).length (Nat.le_refl _)
        rw [nextsG, List.take_length] at this
        simpa using this
      · obtain ⟨g, hg, rfl⟩ := List.mem_map.1 hy
        obtain ⟨p, hp, rfl⟩ := List.mem_map.1 hg
        obtain ⟨h1, _, h3⟩ := hok.each p hp
        have hi : ∃ i : Nat, p.2.headD 0 = (i : Int) ∧ i < s.1.length := by
          cases hp2 : p.2 with
          | nil => rw [hp2] at h1; simp at h1
          | cons z r =>
            have := h3 z (by rw [hp2]; simp)
            exact ⟨z.toNat, by simp; omega, by omega⟩
        obtain ⟨i, hi, hil⟩ := hi
        show (s.1.getD (p.2.headD 0).toNat zeroB).1.1.length = 3 ∧ (s.1.getD (p.2.headD 0).toNat zeroB).1.2.length = 3
        rw [hi, Int.toNat_natCast]
        have e : s.1.getD i zeroB = s.1[i] := by simp [hil]
        rw [e]
        exact h.each _ (List.getElem_mem hil)
    · exact h
structure DrOk (x : St) : Prop where
  n : x.ns.length ≤ 5
  z : x.zs.length = x.ns.length * x.ns.length
  each : ∀ y ∈ x.ns, y.h.vs.length = 3 ∧ y.h.zs.length = 3
theorem DrOk.of {x : St} (h : DrB x.body) : DrOk x :=
  ⟨by simpa [St.body] using h.n, by simpa [St.body] using h.z, fun y hy => h.each y.body (List.mem_map.2 ⟨y, hy, rfl⟩)⟩
theorem DrB.of {x : St} (h : DrOk x) : DrB x.body := ⟨by simpa [St.body] using h.n, by simpa [St.body] using h.z, fun y hy => by
  obtain ⟨z, hz, rfl⟩ := List.mem_map.1 hy
  exact h.each z hz⟩
theorem DrOk.sq {x : St} (h : DrOk x) : x.zs.length ≤ 25 := by
  rw [h.z]
  exact Nat.le_trans (Nat.mul_le_mul h.n h.n) (by decide)
theorem DrOk.fit {x : St} {lo hi : Nat} {W : World} (h : DrOk x) (hin : x.In lo hi W) : x.Fit := by
  have hs := h.sq
  refine ⟨⟨by simp only [St.body, List.length_map]; have := h.n; omega, by simp only [St.body]; omega, fun y hy => ?_⟩, by have := h.n; omega, by omega, fun y hy => by have := h.each y hy; omega, fun y hy => ⟨?_, ?_⟩, ?_⟩
  · obtain ⟨z, hz, rfl⟩ := List.mem_map.1 hy
    have h1 := h.each z hz
    exact ⟨by show z.h.vs.length ≤ _; omega, by show z.h.zs.length ≤ _; omega⟩
  · exact own_none (hin.each y hy).pv.2.1
  · exact own_none (hin.each y hy).pz.2.1
  · exact own_none hin.next.2.1
theorem DrOk.set {x : St} (h : DrOk x) {i : Nat} {y : Nd} (hi : i < x.ns.length) (hy : y.h.vs.length = x.ns[i].h.vs.length ∧ y.h.zs.length = x.ns[i].h.zs.length) : DrOk { x with ns := x.ns.set i y } := by
  refine ⟨by simpa using h.n, by simpa using h.z, fun z hz => ?_⟩
  rcases List.mem_or_eq_of_mem_set hz with hz | rfl
  · exact h.each z hz
  · have := h.each _ (List.getElem_mem hi)
    omega
theorem DrOk.next {x : St} (h : DrOk x) (k : Nat) (v : Int) : DrOk { x with zs := x.zs.set k v } := ⟨h.n, by simpa using h.z, h.each⟩
/-- A structure, drawn. -/
def StDrawn (g : Nat) (w : World) (e : Ending) (w' : World) : Prop := ∃ x : St, e = .returned x.v ∧ DrOk x ∧ x.In w.heap.size w'.heap.size w' ∧ Dg w g w'
/-- An address in a row of one's own. -/
theorem own_addr {W : World} {B e s n c : Nat} {a : Option Addr} {xs : List Value} (h : W.ownsRow B e s (.slice a n c) n xs) (hn : 0 < n) : ∃ g, a = some ⟨g, 0, none⟩ ∧ B ≤ g ∧ g < W.heap.size := by
  rcases h.2 with ⟨hv, h0⟩ | ⟨g, cap, cur, hv, hb, _⟩
  · omega
  · injection hv with hv _ _
    subst hv
    exact ⟨g, rfl, hb, (h.lt g rfl).2⟩
set_option maxRecDepth 100000 in
set_option maxHeartbeats 600000 in
theorem drawSt (g : Nat) (w : World) (hcur : Cur w g) : Calls Tryz.prog 62 #[.pointer (some ⟨g, 0, none⟩), .int .i64 3] w (StDrawn g w) := by
  have hg0 := hcur.lt
  go_enter Tryz.func62, Tryz.ntmps62
  go_wp2_with fail
  obtain ⟨W0, hW0, hb0, R0⟩ := one_boxL w [.slice none 0 0, .slice none 0 0] 27
  simp only [List.toArray] at hW0
  rw [hW0]
  clear hW0
  have hz0 := R0.lt
  have D0 := (Dg.start hcur).below hb0
  refine (drawHeap g _ D0.cur).mono ?_
  rintro e w2 ⟨ha, hca, hb, hcb, vs, zs, rfl, hvl, hzl, hin2, D2⟩
  have HVL := Lib.hid hvl
  have hvl4 : vs.length ≤ 1048576 := by omega
  clear hvl
  have R2 := R0.turn (turn_drawn D2.grown) (.inr (by omega))
  have D2' := D0.draw D2.cur D2.grown
  have hz2 := D2.grown.size
  clear R0 D0 D2
  go_wp2_with fail
  refine (specStructureOf ha hb hca hcb vs zs _ hvl4 (by omega) hin2.rows).mono ?_
  rintro e w3 ⟨x, hbody, rfl, hin3, hb3⟩
  have HX := Lib.hid (DrOk.of (x := x) (by rw [hbody]; exact structB_dr HVL.out hzl))
  have R3 := R2.below hb3
  have D3 := D2'.below hb3
  have hz3 := hb3.size
  clear R2 D2' hbody hin2 hb3
  go_wp2_with fail
  obtain ⟨W4, hW4, hb4, bq4⟩ := one_boxL w3 [.slice x.a x.ns.length x.ca, .slice x.b x.zs.length x.cb] 27
  simp only [List.toArray] at hW4
  rw [hW4]
  clear hW4
  have R4 := R3.below hb4
  have D4 := D3.below hb4
  have S4 : Sq (w.heap.size + 1) w3.heap.size x W4 := ⟨bq4, (hin3.below hb4).mono (by omega) hb4.size (Nat.le_refl _), fun hk => absurd (hin3.has_lt hk).2 (Nat.lt_irrefl _)⟩
  have hwQ : w.heap.size + 1 ≤ w3.heap.size := by omega
  clear R3 D3 hin3 bq4 hb4
  generalize w3.heap.size = Q at *
  refine (drawOnce g 3 _ (by omega) (by omega) D4.cur).mono ?_
  rintro e w5 ⟨fl, rfl, hc5, hw5⟩
  have t5 := turn_drawn hw5
  have D5 := D4.draw hc5 hw5
  have R5 := R4.turn t5 (.inr (by omega))
  have S5 := S4.turn t5 (by omega) (.inr (by omega))
  clear D4 R4 S4 hc5 hw5 t5
  cases fl with
  | true =>
    go_wp2_with fail
    have D := D5
    have R := R5
    have S := S5
    clear D5 R5 S5
    have hdz := HX.out.n
    refine (drawBelow g 3 _ (by omega) (by omega) D.cur).mono ?_
    rintro e w7 ⟨cnt, hcnt, rfl, hc7, hw7⟩
    have t7 := turn_drawn hw7
    have D7 := D.draw hc7 hw7
    have R7 := R.turn t7 (.inr (by omega))
    have S7 := S.turn t7 (by omega) (.inr (by omega))
    clear D R S hc7 hw7 t7
    go_wp2
    go_loopw [7] (fun i wr => ∃ (k : Nat) (x : St), k ≤ cnt ∧ i = .int .i64 k ∧ DrOk x ∧ Dg w g wr ∧ BoxL wr w.heap.size [.slice none 0 0, .slice none 0 0] ∧ Sq (w.heap.size + 1) Q x wr) (fun i _ => cnt - (intOf i).toNat)
    case atStart => exact ⟨0, _, Nat.zero_le _, rfl, HX.out, D7, R7, S7⟩
    case round =>
      clear D7 R7 S7 HX
      obtain ⟨k, x, hk, rfl, hx, D, R, S⟩ := hrel
      have HX := Lib.hid hx
      have hx5 := hx.n
      have o0 := S.box.c 0 _ rfl
      have o1 := S.box.c 1 _ rfl
      have hQl := S.box.lt
      by_cases hgo : k < cnt ∧ 0 < x.ns.length
      · obtain ⟨hkc, hn0⟩ := hgo
        have hkci : (k : Int) < (cnt : Int) := by omega
        have hn0i : (0 : Int) < (x.ns.length : Int) := by omega
        have HD := Lib.hid D
        have HR := Lib.hid R
        have HS := Lib.hid S
        clear D R S hx
        go_wp2_with fail
        refine (drawBelow g x.ns.length _ hn0 (by omega) HD.out.cur).mono ?_
        rintro e w8 ⟨i, hi', rfl, hc8, hw8⟩
        have t8 := turn_drawn hw8
        have D8 := HD.out.draw hc8 hw8
        have R8 := HR.out.turn t8 (.inr (by omega))
        have S8 := HS.out.turn t8 (by omega) (.inr (by omega))
        clear hc8 hw8 t8 HD HR HS o0 o1 hQl
        go_wp2_with fail
        refine (drawBelow g 4 _ (by omega) (by omega) D8.cur).mono ?_
        rintro e w9 ⟨q, hq4, rfl, hc9, hw9⟩
        have t9 := turn_drawn hw9
        have D9 := D8.draw hc9 hw9
        have R9 := R8.turn t9 (.inr (by omega))
        have S9 := S8.turn t9 (by omega) (.inr (by omega))
        clear D8 R8 S8 hc9 hw9 t9
        have o0 := S9.box.c 0 _ rfl
        have o1 := S9.box.c 1 _ rfl
        have hQl := S9.box.lt
        have hii : (i : Int) < (x.ns.length : Int) := by omega
        obtain ⟨ga, hxa, hgl, hgs⟩ := own_addr S9.in_.nodes.2.1 hn0
        have o0' : w9.cell? ⟨Q, 0, none⟩ = some (.slice (some ⟨ga, 0, none⟩) x.ns.length x.ca) := by rw [← hxa]; exact o0
        have hm := List.getElem_mem hi'
        have hin9 := S9.in_
        have hy3 := HX.out.each _ hm
        have hnc := fun j (hj : j < 4) => hin9.nodes.2.1.cells (g := ga) (by simp only [St.va, hxa]; rfl) (i * 4 + j) _ ((fl_at ndCells_length x.ns i hi' j hj).trans (List.getElem?_eq_getElem (by rw [ndCells_length]; exact hj)))
        have hfz := fun j => (show w9.ownsRow (w.heap.size + 1) 56 4 (.slice (some ⟨ga, 0, none⟩) x.ns.length x.ca) x.ns.length (ndVals x.ns) from by have := hin9.nodes.2.1; simp only [St.va, hxa] at this; exact this).frozenAt j
        have D := D9
        have R := R9
        have S := S9
        have HXA := Lib.hid hxa
        clear D9 R9 S9 o0 hxa
        by_cases q0 : q = 0
        · subst q0
          have hpz := (hin9.each _ hm).pz
          obtain ⟨gr, hgr, hgrl, hgrs⟩ := own_addr hpz.2.1 (by omega)
          have hc1 := hnc 1 (by omega)
          rw [add_plain, Nat.zero_add] at hc1
          have hc1 : w9.cell? ⟨ga, i * 4 + 1, none⟩ = some (.slice (some ⟨gr, 0, none⟩) x.ns[i].h.zs.length x.ns[i].h.cb) := by rw [← hgr]; exact hc1
          have hro : w9.ownsRow (w.heap.size + 1) 3 1 (.slice (some ⟨gr, 0, none⟩) x.ns[i].h.zs.length x.ns[i].h.cb) x.ns[i].h.zs.length (intVals x.ns[i].h.zs) := by rw [← hgr]; exact hpz.2.1
          have HGR := Lib.hid hgr
          have HRO := Lib.hid hro
          have hzl3 : (3 : Int) ≤ (x.ns[i].h.zs.length : Int) := by omega
          clear hgr hro hpz hnc hfz hy3
          generalize hzl : x.ns[i].h.zs.length = zl at *
          generalize hzb : x.ns[i].h.cb = zb at *
          have HZL := Lib.hid hzl
          have HZB := Lib.hid hzb
          clear hzl hzb
          have hd := Below.drew (Below.refl w9.heap.size w9)
          have HS := Lib.hid (fun (W : World) (h1 : Sq (w.heap.size + 1) Q x W) (h2 : W.cell? ⟨ga, i * 4 + 1, none⟩ = some (.slice (some ⟨gr, 0, none⟩) zl zb)) => show W.cell? ⟨Q, 0, none⟩ = some (.slice (some ⟨ga, 0, none⟩) x.ns.length x.ca) ∧ W.cell? ⟨ga, i * 4 + 1, none⟩ = some (.slice (some ⟨gr, 0, none⟩) zl zb) from ⟨by rw [← HXA.out]; exact h1.box.c 0 _ rfl, h2⟩)
          have S1 := HS.out _ (S.call hd) hc1
          go_wp2
          refine wp_region_keep (S := fun W => W.cell? ⟨Q, 0, none⟩ = some (.slice (some ⟨ga, 0, none⟩) x.ns.length x.ca) ∧ W.cell? ⟨ga, i * 4 + 1, none⟩ = some (.slice (some ⟨gr, 0, none⟩) zl zb)) (B := fun i => decide (i ≠ 10)) (by kernel_rfl) ?_
          refine anyKeep.take (i := 0) (v := ?_) rfl (by kernel_rfl) (by kernel_rfl) (by kernel_rfl) (by kernel_rfl) (fun _ _ _ h => h) rfl ?_ S1 ?_
          rotate_left
          · rintro w' ⟨h1, h2⟩
            go_simp
            try with_reducible rfl
          try simp only [Act.put, List.setIfInBounds_toArray]
          refine anyKeep.take (i := 1) (v := ?_) rfl (by kernel_rfl) (by kernel_rfl) (by kernel_rfl) (by kernel_rfl) (fun _ _ _ h => h) rfl ?_ S1 ?_
          rotate_left
          · rintro w' ⟨h1, h2⟩
            go_simp
            try with_reducible rfl
          try simp only [Act.put, List.setIfInBounds_toArray]
          refine anyKeep.take (i := 2) (v := ?_) rfl (by kernel_rfl) (by kernel_rfl) (by kernel_rfl) (by kernel_rfl) (fun _ _ _ h => h) rfl ?_ S1 ?_
          rotate_left
          · rintro w' ⟨h1, h2⟩
            go_simp
            try with_reducible rfl
          try simp only [Act.put, List.setIfInBounds_toArray]
          refine anyKeep.take (i := 3) (v := ?_) rfl (by kernel_rfl) (by kernel_rfl) (by kernel_rfl) (by kernel_rfl) (fun _ _ _ h => h) rfl ?_ S1 ?_
          rotate_left
          · rintro w' ⟨h1, h2⟩
            go_simp
            try with_reducible rfl
          try simp only [Act.put, List.setIfInBounds_toArray]
          refine anyKeep.take (i := 4) (v := ?_) rfl (by kernel_rfl) (by kernel_rfl) (by kernel_rfl) (by kernel_rfl) (fun _ _ _ h => h) rfl ?_ S1 ?_
          rotate_left
          · rintro w' ⟨h1, h2⟩
            go_simp
            try with_reducible rfl
          try simp only [Act.put, List.setIfInBounds_toArray]
          refine anyKeep.take (i := 5) (v := ?_) rfl (by kernel_rfl) (by kernel_rfl) (by kernel_rfl) (by kernel_rfl) (fun _ _ _ h => h) rfl ?_ S1 ?_
          rotate_left
          · rintro w' ⟨h1, h2⟩
            go_simp
            try with_reducible rfl
          try simp only [Act.put, List.setIfInBounds_toArray]
          refine anyKeep.take (i := 6) (v := ?_) rfl (by kernel_rfl) (by kernel_rfl) (by kernel_rfl) (by kernel_rfl) (fun _ _ _ h => h) rfl ?_ S1 ?_
          rotate_left
          · rintro w' ⟨h1, h2⟩
            go_simp
            try with_reducible rfl
          try simp only [Act.put, List.setIfInBounds_toArray]
          refine anyKeep.take (i := 7) (v := ?_) rfl (by kernel_rfl) (by kernel_rfl) (by kernel_rfl) (by kernel_rfl) (fun _ _ _ h => h) rfl ?_ S1 ?_
          rotate_left
          · rintro w' ⟨h1, h2⟩
            go_simp
            try with_reducible rfl
          try simp only [Act.put, List.setIfInBounds_toArray]
          refine anyKeep.one (k := 8) (by kernel_rfl) rfl (fun K hK => ?_)
          go_simp
          go_at_call 36
          refine (drawBelow g 3 _ (by omega) (by omega) (D.below hd).cur).mono ?_
          rintro e wA ⟨z, hz3, rfl, hcA, hwA⟩
          have tA := turn_drawn hwA
          have DA := (D.below hd).draw hcA hwA
          have RA := (R.below hd).turn tA (.inr (by omega))
          have SA := (S.call hd).turn tA (by omega) (.inr (by omega))
          have hroA := HRO.out.alloc
          have hcA1 : wA.cell? ⟨ga, i * 4 + 1, none⟩ = some (.slice (some ⟨gr, 0, none⟩) zl zb) := (World.cell?_of_block (hwA.block ga hgs (fun e => by have := Option.some.inj e; omega))).trans hc1
          have hoA := own_other (own_keeps HRO.out hd) hwA (fun j hj e => by have h1 : gr = j := Option.some.inj hj; have h2 := Option.some.inj e; omega)
          have hfA := hoA.frozenAt z
          have hzA := hoA.cellAt z (by rw [Nat.mul_one]; omega)
          rw [List.getElem?_eq_getElem (by rw [intVals_length, HZL.out]; omega)] at hzA
          clear S1 hroA
          refine hK _ _ (fun _ => HS.out _ SA hcA1) ?_
          clear hK K
          try simp only [Act.put, List.setIfInBounds_toArray, List.set_cons_zero, List.set_cons_succ]
          have hzi : (z : Int) < (zl : Int) := by omega
          refine anyKeep.one (k := 9) (by kernel_rfl) rfl (fun K hK => ?_)
          go_simp
          refine hK _ _ (fun _ => HS.out _ SA hcA1) ?_
          clear hK K
          try simp only [Act.put, List.setIfInBounds_toArray, List.set_cons_zero, List.set_cons_succ]
          refine anyKeep.one (k := 10) (by kernel_rfl) rfl (fun K hK => ?_)
          go_simp
          refine hK _ _ (fun e => by simp at e) ?_
          clear hK K
          try simp only [Act.put, List.setIfInBounds_toArray, List.set_cons_zero, List.set_cons_succ]
          refine anyKeep.done (by kernel_rfl) ?_
          have SB := SA.setReach (k := z) (v := 1) hi' HGR.out
          have DB := DA.turn (turn_set wA gr z (.int .i64 1)) (by omega)
          have RB := RA.turn (turn_set wA gr z (.int .i64 1)) (.inl (by omega))
          have HXB := Lib.hid (HX.out.set (i := i) (y := x.ns[i].setZ z 1) hi' ⟨rfl, by simp [Nd.setZ]⟩)
          clear hoA hfA hzA hcA1 hcA hwA tA SA DA RA D R S HS HRO hc1
          go_wp2
          go_roundw
          case rel => exact ⟨k + 1, _, by omega, by go_num, HXB.out, DB, RB, SB⟩
          case measure => simp [intOf]; omega
        by_cases q1 : q = 1
        · subst q1
          have hc2 := hnc 2 (by omega)
          rw [add_plain, Nat.zero_add] at hc2
          have hc2 : w9.cell? ⟨ga, i * 4 + 2, none⟩ = some (.int .i64 x.ns[i].s) := hc2
          have hf2 := hfz (i * 4 + 2)
          clear hnc hfz hy3
          have SB := S.setNum HXA.out hi' (y := ⟨x.ns[i].h, 1, x.ns[i].m⟩) (j := 2) (v := .int .i64 1) rfl (by omega) rfl
          have DB := D.turn (turn_set w9 ga (i * 4 + 2) (.int .i64 1)) (by omega)
          have RB := R.turn (turn_set w9 ga (i * 4 + 2) (.int .i64 1)) (.inl (by omega))
          have HXB := Lib.hid (HX.out.set (i := i) (y := ⟨x.ns[i].h, 1, x.ns[i].m⟩) hi' ⟨rfl, rfl⟩)
          have HSB := Lib.hid SB
          clear SB S D R
          generalize x.ns[i].s = sv at *
          go_wp2
          go_roundw
          case rel => exact ⟨k + 1, _, by omega, by go_num, HXB.out, DB, RB, HSB.out⟩
          case measure => simp [intOf]; omega
        by_cases q2 : q = 2
        · subst q2
          have hzl0 : 0 < x.zs.length := by rw [HX.out.z]; exact Nat.mul_pos hn0 hn0
          have hz25 := HX.out.sq
          obtain ⟨gb, hxb, hgbl, hgbs⟩ := own_addr hin9.next.2.1 hzl0
          have o1' : w9.cell? ⟨Q, 1, none⟩ = some (.slice (some ⟨gb, 0, none⟩) x.zs.length x.cb) := by rw [← hxb]; exact o1
          have hro : w9.ownsRow (w.heap.size + 1) 3 1 (.slice (some ⟨gb, 0, none⟩) x.zs.length x.cb) x.zs.length (intVals x.zs) := by rw [← hxb]; exact hin9.next.2.1
          have HRO := Lib.hid hro
          have HXBB := Lib.hid hxb
          clear hxb hro hnc hfz hy3 o1
          have hd := Below.drew (Below.refl w9.heap.size w9)
          have HS := Lib.hid (fun (W : World) (h1 : Sq (w.heap.size + 1) Q x W) => show W.cell? ⟨Q, 1, none⟩ = some (.slice (some ⟨gb, 0, none⟩) x.zs.length x.cb) from by rw [← HXBB.out]; exact h1.box.c 1 _ rfl)
          have S1 := HS.out _ (S.call hd)
          go_wp2
          refine wp_region_keep (S := fun W => W.cell? ⟨Q, 1, none⟩ = some (.slice (some ⟨gb, 0, none⟩) x.zs.length x.cb)) (B := fun i => decide (i ≠ 8)) (by kernel_rfl) ?_
          refine anyKeep.take (i := 0) (v := ?_) rfl (by kernel_rfl) (by kernel_rfl) (by kernel_rfl) (by kernel_rfl) (fun _ _ _ h => h) rfl ?_ S1 ?_
          rotate_left
          · rintro w' h1
            go_simp
            try with_reducible rfl
          try simp only [Act.put, List.setIfInBounds_toArray]
          refine anyKeep.take (i := 1) (v := ?_) rfl (by kernel_rfl) (by kernel_rfl) (by kernel_rfl) (by kernel_rfl) (fun _ _ _ h => h) rfl ?_ S1 ?_
          rotate_left
          · rintro w' h1
            go_simp
            try with_reducible rfl
          try simp only [Act.put, List.setIfInBounds_toArray]
          refine anyKeep.take (i := 2) (v := ?_) rfl (by kernel_rfl) (by kernel_rfl) (by kernel_rfl) (by kernel_rfl) (fun _ _ _ h => h) rfl ?_ S1 ?_
          rotate_left
          · rintro w' h1
            go_simp
            try with_reducible rfl
          try simp only [Act.put, List.setIfInBounds_toArray]
          refine anyKeep.take (i := 3) (v := ?_) rfl (by kernel_rfl) (by kernel_rfl) (by kernel_rfl) (by kernel_rfl) (fun _ _ _ h => h) rfl ?_ S1 ?_
          rotate_left
          · rintro w' h1
            go_simp
            try with_reducible rfl
          try simp only [Act.put, List.setIfInBounds_toArray]
          refine anyKeep.take (i := 4) (v := ?_) rfl (by kernel_rfl) (by kernel_rfl) (by kernel_rfl) (by kernel_rfl) (fun _ _ _ h => h) rfl ?_ S1 ?_
          rotate_left
          · rintro w' h1
            go_simp
            try with_reducible rfl
          try simp only [Act.put, List.setIfInBounds_toArray]
          refine anyKeep.take (i := 5) (v := ?_) rfl (by kernel_rfl) (by kernel_rfl) (by kernel_rfl) (by kernel_rfl) (fun _ _ _ h => h) rfl ?_ S1 ?_
          rotate_left
          · rintro w' h1
            go_simp
            try with_reducible rfl
          try simp only [Act.put, List.setIfInBounds_toArray]
          refine anyKeep.one (k := 6) (by kernel_rfl) rfl (fun K hK => ?_)
          go_simp
          go_at_call 36
          (with_reducible refine (drawBelow g x.zs.length _ hzl0 (by omega) (D.below hd).cur).mono ?_)
          rintro e wA ⟨z, hz3, rfl, hcA, hwA⟩
          have tA := turn_drawn hwA
          have DA := (D.below hd).draw hcA hwA
          have RA := (R.below hd).turn tA (.inr (by omega))
          have SA := (S.call hd).turn tA (by omega) (.inr (by omega))
          have hoA := own_other (own_keeps HRO.out hd) hwA (fun j hj e => by have h1 : gb = j := Option.some.inj hj; have h2 := Option.some.inj e; omega)
          have hfA := hoA.frozenAt z
          have hzA := hoA.cellAt z (by rw [Nat.mul_one]; exact hz3)
          rw [List.getElem?_eq_getElem (by rw [intVals_length]; exact hz3)] at hzA
          clear S1
          refine hK _ _ (fun _ => HS.out _ SA) ?_
          clear hK K
          try simp only [Act.put, List.setIfInBounds_toArray, List.set_cons_zero, List.set_cons_succ]
          have hzi : (z : Int) < (x.zs.length : Int) := by omega
          refine anyKeep.one (k := 7) (by kernel_rfl) rfl (fun K hK => ?_)
          go_simp
          refine hK _ _ (fun _ => HS.out _ SA) ?_
          clear hK K
          try simp only [Act.put, List.setIfInBounds_toArray, List.set_cons_zero, List.set_cons_succ]
          refine anyKeep.one (k := 8) (by kernel_rfl) rfl (fun K hK => ?_)
          go_simp
          refine hK _ _ (fun e => by simp at e) ?_
          clear hK K
          try simp only [Act.put, List.setIfInBounds_toArray, List.set_cons_zero, List.set_cons_succ]
          refine anyKeep.done (by kernel_rfl) ?_
          have SB := SA.setNext (k := z) (v := 1) HXBB.out
          have DB := DA.turn (turn_set wA gb z (.int .i64 1)) (by omega)
          have RB := RA.turn (turn_set wA gb z (.int .i64 1)) (.inl (by omega))
          have HXB := Lib.hid (HX.out.next z 1)
          clear hoA hfA hzA hcA hwA tA SA DA RA D R S HS HRO
          go_wp2
          go_roundw
          case rel => exact ⟨k + 1, _, by omega, by go_num, HXB.out, DB, RB, SB⟩
          case measure => simp [intOf]; omega
        clear hnc hfz
        go_wp2
        go_roundw
        case rel => exact ⟨k + 1, x, by omega, by go_num, HX.out, D, R, S⟩
        case measure => simp [intOf]; omega
      · have hend : StDrawn g w (.returned x.v) ((wr.setCell ⟨w.heap.size, 0, none⟩ (.slice x.a x.ns.length x.ca)).setCell ⟨w.heap.size, 1, none⟩ (.slice x.b x.zs.length x.cb)) := by
          have tq : Turn w.heap.size (w.heap.size + 1) wr ((wr.setCell ⟨w.heap.size, 0, none⟩ (.slice x.a x.ns.length x.ca)).setCell ⟨w.heap.size, 1, none⟩ (.slice x.b x.zs.length x.cb)) := (turn_set _ _ _ _).trans (turn_set _ _ _ _)
          exact ⟨x, rfl, hx, (S.in_.turn tq (.inr (Nat.le_refl _))).mono (Nat.le_succ _) tq.size (Nat.le_refl _), D.turn tq (Nat.le_refl _)⟩
        have HEND := Lib.hid hend
        have r0 := R.c 0 _ rfl
        have r1 := R.c 1 _ rfl
        have rf := R.f
        have hwl := R.lt
        clear hend D R S hx
        by_cases hkc : k < cnt
        · have hkci : (k : Int) < (cnt : Int) := by omega
          have hn0 : x.ns.length = 0 := by
            rcases Nat.eq_zero_or_pos x.ns.length with h | h
            · exact h
            · exact absurd ⟨hkc, h⟩ hgo
          have hn0i : ¬ (0 : Int) < (x.ns.length : Int) := by omega
          have HN0 := Lib.hid hn0
          clear hn0 hgo
          go_wp2
          exact bodyPost_ret (v := x.v) (by simp [results, Tryz.results62, go_sem, r0, r1]) rfl HEND.out
        · have hkci : ¬ (k : Int) < (cnt : Int) := by omega
          clear hgo
          go_wp2
          exact bodyPost_ret (v := x.v) (by simp [results, Tryz.results62, go_sem, r0, r1]) rfl HEND.out
  | false =>
    have o0 := S5.box.c 0 _ rfl
    have o1 := S5.box.c 1 _ rfl
    have hQ5 := S5.box.lt
    go_wp2_with fail
    refine (specBlur x _ (HX.out.fit S5.in_) S5.in_.at_).mono ?_
    rintro e w6 ⟨x6, hx6, rfl, hin6, hb6⟩
    have HX6 := Lib.hid (DrOk.of (x := x6) (by rw [hx6]; exact blurB_dr (DrB.of HX.out)))
    have D6 := D5.below hb6
    have R6 := R5.below hb6
    have bq6 := S5.box.below hb6
    have q0 := bq6.c 0 _ rfl
    have q1 := bq6.c 1 _ rfl
    have qf := bq6.f
    have hz6 := hb6.size
    clear D5 R5 S5 o0 o1 hx6 HX hb6
    have HX := HX6
    clear HX6
    have S : Sq (w.heap.size + 1) Q x6 ((w6.setCell ⟨Q, 0, none⟩ (.slice x6.a x6.ns.length x6.ca)).setCell ⟨Q, 1, none⟩ (.slice x6.b x6.zs.length x6.cb)) := by
      have tq : Turn Q (Q + 1) w6 ((w6.setCell ⟨Q, 0, none⟩ (.slice x6.a x6.ns.length x6.ca)).setCell ⟨Q, 1, none⟩ (.slice x6.b x6.zs.length x6.cb)) := (turn_set _ _ _ _).trans (turn_set _ _ _ _)
      exact ⟨(bq6.set 0 _).set 1 _, (hin6.turn tq (.inr (by omega))).mono (by omega) tq.size (Nat.le_refl _), fun hk => by have := (hin6.has_lt hk).1; omega⟩
    have tq : Turn Q (Q + 1) w6 ((w6.setCell ⟨Q, 0, none⟩ (.slice x6.a x6.ns.length x6.ca)).setCell ⟨Q, 1, none⟩ (.slice x6.b x6.zs.length x6.cb)) := (turn_set _ _ _ _).trans (turn_set _ _ _ _)
    have D := D6.turn tq (by omega)
    have R := R6.turn tq (.inl (by omega))
    clear bq6 hin6 D6 R6 tq
    go_wp2_with fail
    have hdz := HX.out.n
    refine (drawBelow g 3 _ (by omega) (by omega) D.cur).mono ?_
    rintro e w7 ⟨cnt, hcnt, rfl, hc7, hw7⟩
    have t7 := turn_drawn hw7
    have D7 := D.draw hc7 hw7
    have R7 := R.turn t7 (.inr (by omega))
    have S7 := S.turn t7 (by omega) (.inr (by omega))
    clear D R S hc7 hw7 t7
    go_wp2
    go_loopw [7] (fun i wr => ∃ (k : Nat) (x : St), k ≤ cnt ∧ i = .int .i64 k ∧ DrOk x ∧ Dg w g wr ∧ BoxL wr w.heap.size [.slice none 0 0, .slice none 0 0] ∧ Sq (w.heap.size + 1) Q x wr) (fun i _ => cnt - (intOf i).toNat)
    case atStart => exact ⟨0, _, Nat.zero_le _, rfl, HX.out, D7, R7, S7⟩
    case round =>
      clear D7 R7 S7 HX
      obtain ⟨k, x, hk, rfl, hx, D, R, S⟩ := hrel
      have HX := Lib.hid hx
      have hx5 := hx.n
      have o0 := S.box.c 0 _ rfl
      have o1 := S.box.c 1 _ rfl
      have hQl := S.box.lt
      by_cases hgo : k < cnt ∧ 0 < x.ns.length
      · obtain ⟨hkc, hn0⟩ := hgo
        have hkci : (k : Int) < (cnt : Int) := by omega
        have hn0i : (0 : Int) < (x.ns.length : Int) := by omega
        have HD := Lib.hid D
        have HR := Lib.hid R
        have HS := Lib.hid S
        clear D R S hx
        go_wp2_with fail
        refine (drawBelow g x.ns.length _ hn0 (by omega) HD.out.cur).mono ?_
        rintro e w8 ⟨i, hi', rfl, hc8, hw8⟩
        have t8 := turn_drawn hw8
        have D8 := HD.out.draw hc8 hw8
        have R8 := HR.out.turn t8 (.inr (by omega))
        have S8 := HS.out.turn t8 (by omega) (.inr (by omega))
        clear hc8 hw8 t8 HD HR HS o0 o1 hQl
        go_wp2_with fail
        refine (drawBelow g 4 _ (by omega) (by omega) D8.cur).mono ?_
        rintro e w9 ⟨q, hq4, rfl, hc9, hw9⟩
        have t9 := turn_drawn hw9
        have D9 := D8.draw hc9 hw9
        have R9 := R8.turn t9 (.inr (by omega))
        have S9 := S8.turn t9 (by omega) (.inr (by omega))
        clear D8 R8 S8 hc9 hw9 t9
        have o0 := S9.box.c 0 _ rfl
        have o1 := S9.box.c 1 _ rfl
        have hQl := S9.box.lt
        have hii : (i : Int) < (x.ns.length : Int) := by omega
        obtain ⟨ga, hxa, hgl, hgs⟩ := own_addr S9.in_.nodes.2.1 hn0
        have o0' : w9.cell? ⟨Q, 0, none⟩ = some (.slice (some ⟨ga, 0, none⟩) x.ns.length x.ca) := by rw [← hxa]; exact o0
        have hm := List.getElem_mem hi'
        have hin9 := S9.in_
        have hy3 := HX.out.each _ hm
        have hnc := fun j (hj : j < 4) => hin9.nodes.2.1.cells (g := ga) (by simp only [St.va, hxa]; rfl) (i * 4 + j) _ ((fl_at ndCells_length x.ns i hi' j hj).trans (List.getElem?_eq_getElem (by rw [ndCells_length]; exact hj)))
        have hfz := fun j => (show w9.ownsRow (w.heap.size + 1) 56 4 (.slice (some ⟨ga, 0, none⟩) x.ns.length x.ca) x.ns.length (ndVals x.ns) from by have := hin9.nodes.2.1; simp only [St.va, hxa] at this; exact this).frozenAt j
        have D := D9
        have R := R9
        have S := S9
        have HXA := Lib.hid hxa
        clear D9 R9 S9 o0 hxa
        by_cases q0 : q = 0
        · subst q0
          have hpz := (hin9.each _ hm).pz
          obtain ⟨gr, hgr, hgrl, hgrs⟩ := own_addr hpz.2.1 (by omega)
          have hc1 := hnc 1 (by omega)
          rw [add_plain, Nat.zero_add] at hc1
          have hc1 : w9.cell? ⟨ga, i * 4 + 1, none⟩ = some (.slice (some ⟨gr, 0, none⟩) x.ns[i].h.zs.length x.ns[i].h.cb) := by rw [← hgr]; exact hc1
          have hro : w9.ownsRow (w.heap.size + 1) 3 1 (.slice (some ⟨gr, 0, none⟩) x.ns[i].h.zs.length x.ns[i].h.cb) x.ns[i].h.zs.length (intVals x.ns[i].h.zs) := by rw [← hgr]; exact hpz.2.1
          have HGR := Lib.hid hgr
          have HRO := Lib.hid hro
          have hzl3 : (3 : Int) ≤ (x.ns[i].h.zs.length : Int) := by omega
          clear hgr hro hpz hnc hfz hy3
          generalize hzl : x.ns[i].h.zs.length = zl at *
          generalize hzb : x.ns[i].h.cb = zb at *
          have HZL := Lib.hid hzl
          have HZB := Lib.hid hzb
          clear hzl hzb
          have hd := Below.drew (Below.refl w9.heap.size w9)
          have HS := Lib.hid (fun (W : World) (h1 : Sq (w.heap.size + 1) Q x W) (h2 : W.cell? ⟨ga, i * 4 + 1, none⟩ = some (.slice (some ⟨gr, 0, none⟩) zl zb)) => show W.cell? ⟨Q, 0, none⟩ = some (.slice (some ⟨ga, 0, none⟩) x.ns.length x.ca) ∧ W.cell? ⟨ga, i * 4 + 1, none⟩ = some (.slice (some ⟨gr, 0, none⟩) zl zb) from ⟨by rw [← HXA.out]; exact h1.box.c 0 _ rfl, h2⟩)
          have S1 := HS.out _ (S.call hd) hc1
          go_wp2
          refine wp_region_keep (S := fun W => W.cell? ⟨Q, 0, none⟩ = some (.slice (some ⟨ga, 0, none⟩) x.ns.length x.ca) ∧ W.cell? ⟨ga, i * 4 + 1, none⟩ = some (.slice (some ⟨gr, 0, none⟩) zl zb)) (B := fun i => decide (i ≠ 10)) (by kernel_rfl) ?_
          refine anyKeep.take (i := 0) (v := ?_) rfl (by kernel_rfl) (by kernel_rfl) (by kernel_rfl) (by kernel_rfl) (fun _ _ _ h => h) rfl ?_ S1 ?_
          rotate_left
          · rintro w' ⟨h1, h2⟩
            go_simp
            try with_reducible rfl
          try simp only [Act.put, List.setIfInBounds_toArray]
          refine anyKeep.take (i := 1) (v := ?_) rfl (by kernel_rfl) (by kernel_rfl) (by kernel_rfl) (by kernel_rfl) (fun _ _ _ h => h) rfl ?_ S1 ?_
          rotate_left
          · rintro w' ⟨h1, h2⟩
            go_simp
            try with_reducible rfl
          try simp only [Act.put, List.setIfInBounds_toArray]
          refine anyKeep.take (i := 2) (v := ?_) rfl (by kernel_rfl) (by kernel_rfl) (by kernel_rfl) (by kernel_rfl) (fun _ _ _ h => h) rfl ?_ S1 ?_
          rotate_left
          · rintro w' ⟨h1, h2⟩
            go_simp
            try with_reducible rfl
          try simp only [Act.put, List.setIfInBounds_toArray]
          refine anyKeep.take (i := 3) (v := ?_) rfl (by kernel_rfl) (by kernel_rfl) (by kernel_rfl) (by kernel_rfl) (fun _ _ _ h => h) rfl ?_ S1 ?_
          rotate_left
          · rintro w' ⟨h1, h2⟩
            go_simp
            try with_reducible rfl
          try simp only [Act.put, List.setIfInBounds_toArray]
          refine anyKeep.take (i := 4) (v := ?_) rfl (by kernel_rfl) (by kernel_rfl) (by kernel_rfl) (by kernel_rfl) (fun _ _ _ h => h) rfl ?_ S1 ?_
          rotate_left
          · rintro w' ⟨h1, h2⟩
            go_simp
            try with_reducible rfl
          try simp only [Act.put, List.setIfInBounds_toArray]
          refine anyKeep.take (i := 5) (v := ?_) rfl (by kernel_rfl) (by kernel_rfl) (by kernel_rfl) (by kernel_rfl) (fun _ _ _ h => h) rfl ?_ S1 ?_
          rotate_left
          · rintro w' ⟨h1, h2⟩
            go_simp
            try with_reducible rfl
          try simp only [Act.put, List.setIfInBounds_toArray]
          refine anyKeep.take (i := 6) (v := ?_) rfl (by kernel_rfl) (by kernel_rfl) (by kernel_rfl) (by kernel_rfl) (fun _ _ _ h => h) rfl ?_ S1 ?_
          rotate_left
          · rintro w' ⟨h1, h2⟩
            go_simp
            try with_reducible rfl
          try simp only [Act.put, List.setIfInBounds_toArray]
          refine anyKeep.take (i := 7) (v := ?_) rfl (by kernel_rfl) (by kernel_rfl) (by kernel_rfl) (by kernel_rfl) (fun _ _ _ h => h) rfl ?_ S1 ?_
          rotate_left
          · rintro w' ⟨h1, h2⟩
            go_simp
            try with_reducible rfl
          try simp only [Act.put, List.setIfInBounds_toArray]
          refine anyKeep.one (k := 8) (by kernel_rfl) rfl (fun K hK => ?_)
          go_simp
          go_at_call 36
          refine (drawBelow g 3 _ (by omega) (by omega) (D.below hd).cur).mono ?_
          rintro e wA ⟨z, hz3, rfl, hcA, hwA⟩
          have tA := turn_drawn hwA
          have DA := (D.below hd).draw hcA hwA
          have RA := (R.below hd).turn tA (.inr (by omega))
          have SA := (S.call hd).turn tA (by omega) (.inr (by omega))
          have hroA := HRO.out.alloc
          have hcA1 : wA.cell? ⟨ga, i * 4 + 1, none⟩ = some (.slice (some ⟨gr, 0, none⟩) zl zb) := (World.cell?_of_block (hwA.block ga hgs (fun e => by have := Option.some.inj e; omega))).trans hc1
          have hoA := own_other (own_keeps HRO.out hd) hwA (fun j hj e => by have h1 : gr = j := Option.some.inj hj; have h2 := Option.some.inj e; omega)
          have hfA := hoA.frozenAt z
          have hzA := hoA.cellAt z (by rw [Nat.mul_one]; omega)
          rw [List.getElem?_eq_getElem (by rw [intVals_length, HZL.out]; omega)] at hzA
          clear S1 hroA
          refine hK _ _ (fun _ => HS.out _ SA hcA1) ?_
          clear hK K
          try simp only [Act.put, List.setIfInBounds_toArray, List.set_cons_zero, List.set_cons_succ]
          have hzi : (z : Int) < (zl : Int) := by omega
          refine anyKeep.one (k := 9) (by kernel_rfl) rfl (fun K hK => ?_)
          go_simp
          refine hK _ _ (fun _ => HS.out _ SA hcA1) ?_
          clear hK K
          try simp only [Act.put, List.setIfInBounds_toArray, List.set_cons_zero, List.set_cons_succ]
          refine anyKeep.one (k := 10) (by kernel_rfl) rfl (fun K hK => ?_)
          go_simp
          refine hK _ _ (fun e => by simp at e) ?_
          clear hK K
          try simp only [Act.put, List.setIfInBounds_toArray, List.set_cons_zero, List.set_cons_succ]
          refine anyKeep.done (by kernel_rfl) ?_
          have SB := SA.setReach (k := z) (v := 1) hi' HGR.out
          have DB := DA.turn (turn_set wA gr z (.int .i64 1)) (by omega)
          have RB := RA.turn (turn_set wA gr z (.int .i64 1)) (.inl (by omega))
          have HXB := Lib.hid (HX.out.set (i := i) (y := x.ns[i].setZ z 1) hi' ⟨rfl, by simp [Nd.setZ]⟩)
          clear hoA hfA hzA hcA1 hcA hwA tA SA DA RA D R S HS HRO hc1
          go_wp2
          go_roundw
          case rel => exact ⟨k + 1, _, by omega, by go_num, HXB.out, DB, RB, SB⟩
          case measure => simp [intOf]; omega
        by_cases q1 : q = 1
        · subst q1
          have hc2 := hnc 2 (by omega)
          rw [add_plain, Nat.zero_add] at hc2
          have hc2 : w9.cell? ⟨ga, i * 4 + 2, none⟩ = some (.int .i64 x.ns[i].s) := hc2
          have hf2 := hfz (i * 4 + 2)
          clear hnc hfz hy3
          have SB := S.setNum HXA.out hi' (y := ⟨x.ns[i].h, 1, x.ns[i].m⟩) (j := 2) (v := .int .i64 1) rfl (by omega) rfl
          have DB := D.turn (turn_set w9 ga (i * 4 + 2) (.int .i64 1)) (by omega)
          have RB := R.turn (turn_set w9 ga (i * 4 + 2) (.int .i64 1)) (.inl (by omega))
          have HXB := Lib.hid (HX.out.set (i := i) (y := ⟨x.ns[i].h, 1, x.ns[i].m⟩) hi' ⟨rfl, rfl⟩)
          have HSB := Lib.hid SB
          clear SB S D R
          generalize x.ns[i].s = sv at *
          go_wp2
          go_roundw
          case rel => exact ⟨k + 1, _, by omega, by go_num, HXB.out, DB, RB, HSB.out⟩
          case measure => simp [intOf]; omega
        by_cases q2 : q = 2
        · subst q2
          have hzl0 : 0 < x.zs.length := by rw [HX.out.z]; exact Nat.mul_pos hn0 hn0
          have hz25 := HX.out.sq
          obtain ⟨gb, hxb, hgbl, hgbs⟩ := own_addr hin9.next.2.1 hzl0
          have o1' : w9.cell? ⟨Q, 1, none⟩ = some (.slice (some ⟨gb, 0, none⟩) x.zs.length x.cb) := by rw [← hxb]; exact o1
          have hro : w9.ownsRow (w.heap.size + 1) 3 1 (.slice (some ⟨gb, 0, none⟩) x.zs.length x.cb) x.zs.length (intVals x.zs) := by rw [← hxb]; exact hin9.next.2.1
          have HRO := Lib.hid hro
          have HXBB := Lib.hid hxb
          clear hxb hro hnc hfz hy3 o1
          have hd := Below.drew (Below.refl w9.heap.size w9)
          have HS := Lib.hid (fun (W : World) (h1 : Sq (w.heap.size + 1) Q x W) => show W.cell? ⟨Q, 1, none⟩ = some (.slice (some ⟨gb, 0, none⟩) x.zs.length x.cb) from by rw [← HXBB.out]; exact h1.box.c 1 _ rfl)
          have S1 := HS.out _ (S.call hd)
          go_wp2
          refine wp_region_keep (S := fun W => W.cell? ⟨Q, 1, none⟩ = some (.slice (some ⟨gb, 0, none⟩) x.zs.length x.cb)) (B := fun i => decide (i ≠ 8)) (by kernel_rfl) ?_
          refine anyKeep.take (i := 0) (v := ?_) rfl (by kernel_rfl) (by kernel_rfl) (by kernel_rfl) (by kernel_rfl) (fun _ _ _ h => h) rfl ?_ S1 ?_
          rotate_left
          · rintro w' h1
            go_simp
            try with_reducible rfl
          try simp only [Act.put, List.setIfInBounds_toArray]
          refine anyKeep.take (i := 1) (v := ?_) rfl (by kernel_rfl) (by kernel_rfl) (by kernel_rfl) (by kernel_rfl) (fun _ _ _ h => h) rfl ?_ S1 ?_
          rotate_left
          · rintro w' h1
            go_simp
            try with_reducible rfl
          try simp only [Act.put, List.setIfInBounds_toArray]
          refine anyKeep.take (i := 2) (v := ?_) rfl (by kernel_rfl) (by kernel_rfl) (by kernel_rfl) (by kernel_rfl) (fun _ _ _ h => h) rfl ?_ S1 ?_
          rotate_left
          · rintro w' h1
            go_simp
            try with_reducible rfl
          try simp only [Act.put, List.setIfInBounds_toArray]
          refine anyKeep.take (i := 3) (v := ?_) rfl (by kernel_rfl) (by kernel_rfl) (by kernel_rfl) (by kernel_rfl) (fun _ _ _ h => h) rfl ?_ S1 ?_
          rotate_left
          · rintro w' h1
            go_simp
            try with_reducible rfl
          try simp only [Act.put, List.setIfInBounds_toArray]
          refine anyKeep.take (i := 4) (v := ?_) rfl (by kernel_rfl) (by kernel_rfl) (by kernel_rfl) (by kernel_rfl) (fun _ _ _ h => h) rfl ?_ S1 ?_
          rotate_left
          · rintro w' h1
            go_simp
            try with_reducible rfl
          try simp only [Act.put, List.setIfInBounds_toArray]
          refine anyKeep.take (i := 5) (v := ?_) rfl (by kernel_rfl) (by kernel_rfl) (by kernel_rfl) (by kernel_rfl) (fun _ _ _ h => h) rfl ?_ S1 ?_
          rotate_left
          · rintro w' h1
            go_simp
            try with_reducible rfl
          try simp only [Act.put, List.setIfInBounds_toArray]
          refine anyKeep.one (k := 6) (by kernel_rfl) rfl (fun K hK => ?_)
          go_simp
          go_at_call 36
          (with_reducible refine (drawBelow g x.zs.length _ hzl0 (by omega) (D.below hd).cur).mono ?_)
          rintro e wA ⟨z, hz3, rfl, hcA, hwA⟩
          have tA := turn_drawn hwA
          have DA := (D.below hd).draw hcA hwA
          have RA := (R.below hd).turn tA (.inr (by omega))
          have SA := (S.call hd).turn tA (by omega) (.inr (by omega))
          have hoA := own_other (own_keeps HRO.out hd) hwA (fun j hj e => by have h1 : gb = j := Option.some.inj hj; have h2 := Option.some.inj e; omega)
          have hfA := hoA.frozenAt z
          have hzA := hoA.cellAt z (by rw [Nat.mul_one]; exact hz3)
          rw [List.getElem?_eq_getElem (by rw [intVals_length]; exact hz3)] at hzA
          clear S1
          refine hK _ _ (fun _ => HS.out _ SA) ?_
          clear hK K
          try simp only [Act.put, List.setIfInBounds_toArray, List.set_cons_zero, List.set_cons_succ]
          have hzi : (z : Int) < (x.zs.length : Int) := by omega
          refine anyKeep.one (k := 7) (by kernel_rfl) rfl (fun K hK => ?_)
          go_simp
          refine hK _ _ (fun _ => HS.out _ SA) ?_
          clear hK K
          try simp only [Act.put, List.setIfInBounds_toArray, List.set_cons_zero, List.set_cons_succ]
          refine anyKeep.one (k := 8) (by kernel_rfl) rfl (fun K hK => ?_)
          go_simp
          refine hK _ _ (fun e => by simp at e) ?_
          clear hK K
          try simp only [Act.put, List.setIfInBounds_toArray, List.set_cons_zero, List.set_cons_succ]
          refine anyKeep.done (by kernel_rfl) ?_
          have SB := SA.setNext (k := z) (v := 1) HXBB.out
          have DB := DA.turn (turn_set wA gb z (.int .i64 1)) (by omega)
          have RB := RA.turn (turn_set wA gb z (.int .i64 1)) (.inl (by omega))
          have HXB := Lib.hid (HX.out.next z 1)
          clear hoA hfA hzA hcA hwA tA SA DA RA D R S HS HRO
          go_wp2
          go_roundw
          case rel => exact ⟨k + 1, _, by omega, by go_num, HXB.out, DB, RB, SB⟩
          case measure => simp [intOf]; omega
        clear hnc hfz
        go_wp2
        go_roundw
        case rel => exact ⟨k + 1, x, by omega, by go_num, HX.out, D, R, S⟩
        case measure => simp [intOf]; omega
      · have hend : StDrawn g w (.returned x.v) ((wr.setCell ⟨w.heap.size, 0, none⟩ (.slice x.a x.ns.length x.ca)).setCell ⟨w.heap.size, 1, none⟩ (.slice x.b x.zs.length x.cb)) := by
          have tq : Turn w.heap.size (w.heap.size + 1) wr ((wr.setCell ⟨w.heap.size, 0, none⟩ (.slice x.a x.ns.length x.ca)).setCell ⟨w.heap.size, 1, none⟩ (.slice x.b x.zs.length x.cb)) := (turn_set _ _ _ _).trans (turn_set _ _ _ _)
          exact ⟨x, rfl, hx, (S.in_.turn tq (.inr (Nat.le_refl _))).mono (Nat.le_succ _) tq.size (Nat.le_refl _), D.turn tq (Nat.le_refl _)⟩
        have HEND := Lib.hid hend
        have r0 := R.c 0 _ rfl
        have r1 := R.c 1 _ rfl
        have rf := R.f
        have hwl := R.lt
        clear hend D R S hx
        by_cases hkc : k < cnt
        · have hkci : (k : Int) < (cnt : Int) := by omega
          have hn0 : x.ns.length = 0 := by
            rcases Nat.eq_zero_or_pos x.ns.length with h | h
            · exact h
            · exact absurd ⟨hkc, h⟩ hgo
          have hn0i : ¬ (0 : Int) < (x.ns.length : Int) := by omega
          have HN0 := Lib.hid hn0
          clear hn0 hgo
          go_wp2
          exact bodyPost_ret (v := x.v) (by simp [results, Tryz.results62, go_sem, r0, r1]) rfl HEND.out
        · have hkci : ¬ (k : Int) < (cnt : Int) := by omega
          clear hgo
          go_wp2
          exact bodyPost_ret (v := x.v) (by simp [results, Tryz.results62, go_sem, r0, r1]) rfl HEND.out
end Go.Proofs.YtglcailcdcpadaaGreatDoor
