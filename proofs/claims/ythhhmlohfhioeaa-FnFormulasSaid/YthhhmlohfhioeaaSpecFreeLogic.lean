/-
  The model's list of the free logic variables.
-/
import Derived.Test.YthhhmlohfhioeaaSpecFree
import Derived.Test.YthhhmlohfhioeaaImplFree
import Derived.Laws.OwnMore
namespace Go.Proofs.Ythhhmlohfhioeaa
open Go Go.RowKit Go.ChangeAt Go.ChangeShapes Go.WideShapes

theorem boolInfo : (Try.prog.info? 4).map (fun i => (i.zero, i.size, i.bytes)) = some (some (.bool false), 1, 1) := by kernel_rfl
theorem take_four (k : Nat) (hk : k < 4) : ([0, 1, 2, 3] : List Int).take (k + 1) = ([0, 1, 2, 3] : List Int).take k ++ [(k : Int)] := by
  have : k = 0 ∨ k = 1 ∨ k = 2 ∨ k = 3 := by omega
  rcases this with rfl | rfl | rfl | rfl <;> rfl
theorem row_skip (f : B4) (k : Nat) (h : f.get (k : Int) = false) (hk : k < 4) : (([0, 1, 2, 3] : List Int).take (k + 1) |>.filter fun i => f.get i) = (([0, 1, 2, 3] : List Int).take k |>.filter fun i => f.get i) := by
  rw [take_four k hk, List.filter_append]
  simp [h]
theorem row_take (f : B4) (k : Nat) (h : f.get (k : Int) = true) (hk : k < 4) : (([0, 1, 2, 3] : List Int).take (k + 1) |>.filter fun i => f.get i) = (([0, 1, 2, 3] : List Int).take k |>.filter fun i => f.get i) ++ [(k : Int)] := by
  rw [take_four k hk, List.filter_append]
  simp [h]
theorem B4.cell_get (f : B4) (k : Nat) (hk : k < 4) : f.cells[k]? = some (.bool (f.get (k : Int))) := by
  have : k = 0 ∨ k = 1 ∨ k = 2 ∨ k = 3 := by omega
  rcases this with rfl | rfl | rfl | rfl <;> rfl
theorem made_four : (madeCells #[Value.bool false] 4).toList = B4.none_.cells := by rw [toList_madeCells_one]; rfl
set_option maxRecDepth 100000 in
set_option maxHeartbeats 1600000 in
theorem specFreeLogic (x : Ft) (w : World) (hs : x.Short) (hd : x.er.depth ≤ 1048577) (hin : x.In w w.heap.size) : Calls Try.prog 18 #[x.val] w (Built w.heap.size 3 (intVals (freeL x.er)) w) := by
  obtain ⟨j0, hj, jz0, jz1, jz2⟩ := info_parts boolInfo
  obtain ⟨i0, hi, hz0, hz1, hz2⟩ := info_parts num2Info
  obtain ⟨WA, hWA⟩ : ∃ W, w.alloc (.cells #[.int .i64 x.kd, .int .i64 x.k, .int .i64 x.u, .int .i64 x.v, .slice x.a x.args.length x.cap] 26) = W := ⟨_, rfl⟩
  have hbA : Below w.heap.size w WA := by rw [← hWA]; exact (Below.refl _ _).alloc (Nat.le_refl _) _
  have hsA : WA.heap.size = w.heap.size + 1 := by rw [← hWA]; simp
  have hxA : BoxL WA w.heap.size x.cells := by rw [← hWA]; exact BoxL.new w x.cells _
  have HWA := Lib.hid hWA
  have HBA := Lib.hid hbA
  have HSA := Lib.hid hsA
  have HXA := Lib.hid hxA
  have HIN := Lib.hid hin
  have HS := Lib.hid (And.intro hs hd)
  clear hWA hbA hsA hxA hin hs hd
  go_enter Try.func18, Try.ntmps18
  go_wp2_with (at_make; refine wpList_make_full _ rfl _ _ 78 rfl (w.heap.size + 1) 4 j0 (.bool false) 1 Try.underlying78 hj jz0 jz1 _ _ _ _ 4 rfl rfl rfl rfl ?b2 ?b3 (by simp) ?_)
  case b2 => rw [jz2]; omega
  case b3 => unfold maxLen; omega
  intro w0 hown0 hgrow0
  have hbox : BoxL w0 (w.heap.size + 1) B4.none_.cells := by
    refine ⟨fun i u hu => ?_, fun o => hown0.frozenAt o, (hown0.lt _ rfl).2⟩
    have hl : i < 4 := (List.getElem?_eq_some_iff.1 hu).1
    rw [hown0.cellAt i (by omega)]
    rw [made_four]
    exact hu
  have hb0 : Below WA.heap.size WA w0 := by
    rw [← HWA.out]
    exact (Below.refl _ _).grown hgrow0 (Nat.le_refl _) (fun k h => by cases h)
  have HBOX := Lib.hid hbox
  have HB0 := Lib.hid hb0
  obtain ⟨x0, x1, x2, x3, x4⟩ : w0.cell? ⟨w.heap.size, 0, none⟩ = some (.int .i64 x.kd) ∧ w0.cell? ⟨w.heap.size, 1, none⟩ = some (.int .i64 x.k) ∧ w0.cell? ⟨w.heap.size, 2, none⟩ = some (.int .i64 x.u) ∧ w0.cell? ⟨w.heap.size, 3, none⟩ = some (.int .i64 x.v) ∧ w0.cell? ⟨w.heap.size, 4, none⟩ = some (.slice x.a x.args.length x.cap) := by
    have h := HXA.out.below hb0
    exact ⟨h.c 0 _ rfl, h.c 1 _ rfl, h.c 2 _ rfl, h.c 3 _ rfl, h.c 4 _ rfl⟩
  have hs0 : w.heap.size + 1 < w0.heap.size := hbox.lt
  clear hbox hb0 hown0 hgrow0
  go_wp2_with fail
  have hmrow : RowIn (w.heap.size + 1 + 1) 0 (w0.alloc (.cells #[] 3)) (some ⟨w0.heap.size, 0, none⟩) (intVals []) := ⟨Nat.zero_le _, fun k u hk => by simp [intVals] at hk⟩
  have hin1 : x.In (w0.alloc (.cells #[] 3)) (w.heap.size + 1) := Ft.In.below ((HBA.out.trans (HB0.out.mono (by have := HSA.out; omega))).alloc (by omega) _) (Nat.le_succ _) x HIN.out
  have h1 := specFree x _ (some ⟨w0.heap.size, 0, none⟩) 0 [] (w.heap.size + 1) B4.none_ HS.out.1 (by have := HS.out.2; simp; omega) hin1 ⟨0, hmrow⟩ (fun h => by cases h) (HBOX.out.below ((Below.refl _ _).alloc (Nat.le_refl _) _))
  refine h1.mono ?_
  clear h1 hmrow hin1 x0 x1 x2 x3 x4
  rintro e w1 ⟨F, rfl, hb1, ht1, hg1⟩
  have hzt := ht1.size
  simp at hzt
  have hF : freeL x.er = ([0, 1, 2, 3] : List Int).filter fun i => F.get i := by
    unfold freeL
    refine List.filter_congr fun j hj => ?_
    have hj4 : 0 ≤ j ∧ j < 4 := by simp at hj; omega
    rw [hg1 j hj4]
    have : B4.none_.get j = false := by unfold B4.none_ B4.get; simp
    simp [this]
  have HF := Lib.hid hF
  have HB1 := Lib.hid hb1
  have hbw : Below w.heap.size w w1 := Turn.below (Below.refl _ w) ((Turn.of_below (HBA.out.trans ((HB0.out.mono (by have := HSA.out; omega)).alloc (by omega) (.cells #[] 3)))).trans (ht1.mono (Nat.le_succ _) (Nat.le_refl _))) (Nat.le_refl _) (Nat.le_refl _)
  have HBW := Lib.hid hbw
  clear hg1 hF hb1 ht1 hbw
  go_wp2_with fail
  go_loopw [4, 5] (fun v i wr => ∃ k : Nat, k ≤ 4 ∧ i = .int .i64 k ∧ wr.ownsRow w1.heap.size 3 1 v (([0, 1, 2, 3] : List Int).take k |>.filter fun i => F.get i).length (intVals (([0, 1, 2, 3] : List Int).take k |>.filter fun i => F.get i)) ∧ Below w1.heap.size w1 wr) (fun _ i _ => 4 - (intOf i).toNat)
  case atStart => exact ⟨0, Nat.zero_le _, rfl, World.ownsRow_made w1 #[] 0 (Nat.le_refl _) (Nat.zero_le _) rfl, (Below.refl _ _).alloc (Nat.le_refl _) _⟩
  case round =>
    obtain ⟨k, hk, rfl, hown, hbq⟩ := hrel
    have hzq := hbq.size
    by_cases hlt : k < 4
    · have hc : wr.cell? ⟨w.heap.size + 1, k, none⟩ = some (.bool (F.get (k : Int))) := (HB1.out.below hbq).c k _ (F.cell_get k hlt)
      have hskip := row_skip F k
      have htake := row_take F k
      have hll : (([0, 1, 2, 3] : List Int).take k |>.filter fun i => F.get i).length ≤ 4 := Nat.le_trans (List.length_filter_le _ _) (by rw [List.length_take]; omega)
      obtain ⟨Q, hQ⟩ : ∃ Q, (([0, 1, 2, 3] : List Int).take k |>.filter fun i => F.get i) = Q := ⟨_, rfl⟩
      rw [hQ] at hown hskip htake hll
      generalize F.get (k : Int) = c at *
      have HO := Lib.hid hown
      have HBQ := Lib.hid hbq
      have HSK := Lib.hid hskip
      have HTK := Lib.hid htake
      clear hown hbq hskip htake hQ
      cases c
      · go_wp2_with fail
        go_roundw
        case rel => exact ⟨k + 1, by omega, by go_num, by rw [HSK.out rfl hlt]; exact HO.out, HBQ.out⟩
        case measure => simp [intOf]; omega
      · obtain ⟨ln, hln⟩ : ∃ n, Q.length = n := ⟨_, rfl⟩
        rw [hln] at HO hll
        have HLN := Lib.hid hln
        clear hln
        go_wp2_with (at_builtin; refine wpList_append_own_at _ rfl (.tmp 22) (.tmp 24) 37 rfl w1.heap.size 3 i0 (.int .i64 0) 1 8 Try.underlying37 hi hz0 hz1 hz2 rfl (by decide) _ ln _ rfl (HO.out.alloc _) ⟨wr.heap.size, 0, none⟩ 1 1 [.int .i64 (k : Int)] rfl rfl (oneCell_at _) (oneCell_int _) (by unfold maxLen; omega) (by omega) (by simp; omega) ?_; intro v6 w6 hown6 hg6 _ hloc6)
        have hb6 := below_grown (HBQ.out.alloc hzq _) hg6 (by simp; omega) (fun q hq => (HO.out.lt q hq).1)
        clear hg6 hloc6
        go_wp2_with fail
        go_roundw
        case rel =>
          refine ⟨k + 1, by omega, by go_num, ?_, hb6⟩
          rw [← HLN.out] at hown6
          rw [HTK.out rfl hlt, List.length_append, intVals_snoc]
          exact hown6
        case measure => simp [intOf]; omega
    · obtain rfl : k = 4 := by omega
      have HO := Lib.hid hown
      have HBQ := Lib.hid hbq
      clear hown hbq
      go_wp2_with fail
      go_ret
      rw [HF.out]
      exact built_end (intVals_length _).symm (own_base HO.out HBW.out.size) (HBW.out.trans (HBQ.out.mono HBW.out.size))
end Go.Proofs.Ythhhmlohfhioeaa
