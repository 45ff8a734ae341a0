/-
  The two EqualFormula.
-/
import Derived.Test.YthhhmlohfhioeaaReachT
import Derived.Test.YthhhmlohfhioeaaEqTree
import Derived.Deep.RegionHeld3
namespace Go.Proofs.Ythhhmlohfhioeaa
open Go Go.RowKit Go.ChangeAt Go.ChangeShapes Go.WideShapes

theorem er_ext {x y : Ft} (h1 : x.kd = y.kd) (h2 : x.k = y.k) (h3 : x.u = y.u) (h4 : x.v = y.v) (hl : x.args.length = y.args.length) (hp : ∀ (i : Nat) (h : i < x.args.length) (h' : i < y.args.length), (x.args[i]).er = (y.args[i]).er) : x.er = y.er := by
  rw [Ft.er_eq, Ft.er_eq y, h1, h2, h3, h4]
  congr 1
  apply List.ext_getElem (by simp [hl])
  intro i g1 g2
  rw [List.length_map] at g1 g2
  simp only [List.getElem_map]
  exact hp i g1 g2

set_option maxRecDepth 100000 in
set_option maxHeartbeats 3200000 in
theorem specEqual : ∀ (x y : Ft) (c : Bool), (c = true ↔ x.er = y.er) → ∀ (w : World), x.Short → x.In w w.heap.size → y.In w w.heap.size → Calls Try.prog 15 #[x.val, y.val] w (GaveB (.bool c) w) := by
  apply Ft.ind (P := fun x => ∀ (y : Ft) (c : Bool), (c = true ↔ x.er = y.er) → ∀ (w : World), x.Short → x.In w w.heap.size → y.In w w.heap.size → Calls Try.prog 15 #[x.val, y.val] w (GaveB (.bool c) w))
  intro x ih y c hc w hs hx hy
  have hs' := (Ft.short_iff x).1 hs
  have hlen := hs'.1
  unfold maxLen at hlen
  have IH := Lib.hid (fun (k : Nat) (h : k < x.args.length) (h' : k < y.args.length) (c' : Bool) (hc' : c' = true ↔ (x.args[k]).er = (y.args[k]).er) (W : World) (hb : Below w.heap.size w W) => ih x.args[k] (List.getElem_mem h) y.args[k] c' hc' W (hs'.2 _ (List.getElem_mem h)) ((hx.part (List.getElem_mem h)).to hb) ((hy.part (List.getElem_mem h')).to hb))
  have HRX := Lib.hid hx.row
  have HRY := Lib.hid hy.row
  have HC := Lib.hid hc
  have hno : ¬ alikeT ((default, x), (default, y)) → c = false := fun h => by
    cases c
    · rfl
    · exact absurd (alike_of_er (x := ((default, x), (default, y))) (hc.1 rfl)) h
  have HNO := Lib.hid hno
  clear ih hs hs' hx hy hc hno
  by_cases hal : alikeT ((default, x), (default, y))
  · obtain ⟨q0, q1, q2, q3, q4⟩ := hal
    simp only at q0 q1 q2 q3 q4
    unfold Ft.val
    rw [← q0, ← q1, ← q2, ← q3, ← q4]
    have HQ := Lib.hid (And.intro q0 (And.intro q1 (And.intro q2 (And.intro q3 q4))))
    have hb2 : Below w.heap.size w ((w.alloc (.cells #[.int .i64 x.kd, .int .i64 x.k, .int .i64 x.u, .int .i64 x.v, .slice x.a x.args.length x.cap] 26)).alloc (.cells #[.int .i64 x.kd, .int .i64 x.k, .int .i64 x.u, .int .i64 x.v, .slice y.a x.args.length y.cap] 26)) := ((Below.refl _ _).alloc (Nat.le_refl _) _).alloc (by simp) _
    obtain ⟨W0, hW0⟩ : ∃ W, (w.alloc (.cells #[.int .i64 x.kd, .int .i64 x.k, .int .i64 x.u, .int .i64 x.v, .slice x.a x.args.length x.cap] 26)).alloc (.cells #[.int .i64 x.kd, .int .i64 x.k, .int .i64 x.u, .int .i64 x.v, .slice y.a x.args.length y.cap] 26) = W := ⟨_, rfl⟩
    have hK : ∀ W, Below W0.heap.size W0 W → Hid (Below w.heap.size w W ∧ W.cell? ⟨w.heap.size, 4, none⟩ = some (.slice x.a x.args.length x.cap) ∧ W.cell? ⟨w.heap.size + 1, 4, none⟩ = some (.slice y.a x.args.length y.cap)) := fun W hW => by
      rw [← hW0] at hW
      exact Lib.hid ⟨hb2.trans (hW.mono (by simp; omega)), by rw [hW.cell (p := ⟨w.heap.size, 4, none⟩) (by simp; omega)]; simp [go_sem], by rw [hW.cell (p := ⟨w.heap.size + 1, 4, none⟩) (by simp)]; simp [go_sem]⟩
    have HK := Lib.hid hK
    have HW0 := Lib.hid hW0
    clear q0 q1 q2 q3 q4 hb2 hK hW0
    go_enter Try.func15, Try.ntmps15
    go_wp2_with fail
    rw [HW0.out]
    clear HW0
    go_loopw [5] (fun i wr => ∃ k : Nat, k ≤ x.args.length ∧ i = .int .i64 k ∧ (∀ (j : Nat) (h : j < x.args.length) (h' : j < y.args.length), j < k → (x.args[j]).er = (y.args[j]).er) ∧ Below W0.heap.size W0 wr) (fun i _ => x.args.length - (intOf i).toNat)
    case atStart => exact ⟨0, Nat.zero_le _, rfl, fun j _ _ h => by omega, Below.refl _ _⟩
    case round =>
      obtain ⟨k, hk, rfl, hall, hbw⟩ := hrel
      obtain ⟨hB, f1, f2⟩ := (HK.out wr hbw).out
      by_cases hlt : k < x.args.length
      · have hlt' : k < y.args.length := by have := HQ.out.2.2.2.2; omega
        obtain ⟨ba, oa, ha, hba, hEa⟩ := HRX.out.node k hlt
        obtain ⟨bb, ob, hb, hbb, hEb⟩ := HRY.out.node k hlt'
        obtain ⟨c', hc'⟩ : ∃ c' : Bool, (c' = true ↔ (x.args[k]).er = (y.args[k]).er) := by
          by_cases h : (x.args[k]).er = (y.args[k]).er
          · exact ⟨true, by simp [h]⟩
          · exact ⟨false, by simp [h]⟩
        have hI := IH.out k hlt hlt' c' hc'
        have HALL := Lib.hid hall
        have HC' := Lib.hid hc'
        have HA := Lib.hid ha
        have HB := Lib.hid hb
        obtain ⟨xk, hxk⟩ : ∃ z, x.args[k] = z := ⟨_, rfl⟩
        obtain ⟨yk, hyk⟩ : ∃ z, y.args[k] = z := ⟨_, rfl⟩
        have HXK := Lib.hid hxk
        have HYK := Lib.hid hyk
        rw [hxk] at hEa hI
        rw [hyk] at hEb hI
        rw [ha] at f1
        rw [hb] at f2
        have HI := Lib.hid hI
        have hS : ∀ w', Below W0.heap.size W0 w' → ((w'.cell? ⟨w.heap.size, 4, none⟩ = some (.slice (some ⟨ba, oa, none⟩) x.args.length x.cap) ∧ w'.cell? ⟨w.heap.size + 1, 4, none⟩ = some (.slice (some ⟨bb, ob, none⟩) x.args.length y.cap)) ∧
            (w'.cell? ⟨ba, oa + k * 5, none⟩ = some (.int .i64 xk.kd) ∧ w'.cell? ⟨ba, oa + k * 5 + 1, none⟩ = some (.int .i64 xk.k) ∧ w'.cell? ⟨ba, oa + k * 5 + 2, none⟩ = some (.int .i64 xk.u) ∧ w'.cell? ⟨ba, oa + k * 5 + 3, none⟩ = some (.int .i64 xk.v) ∧ w'.cell? ⟨ba, oa + k * 5 + 4, none⟩ = some (.slice xk.a xk.args.length xk.cap)) ∧
            (w'.cell? ⟨bb, ob + k * 5, none⟩ = some (.int .i64 yk.kd) ∧ w'.cell? ⟨bb, ob + k * 5 + 1, none⟩ = some (.int .i64 yk.k) ∧ w'.cell? ⟨bb, ob + k * 5 + 2, none⟩ = some (.int .i64 yk.u) ∧ w'.cell? ⟨bb, ob + k * 5 + 3, none⟩ = some (.int .i64 yk.v) ∧ w'.cell? ⟨bb, ob + k * 5 + 4, none⟩ = some (.slice yk.a yk.args.length yk.cap))) ∧ Below w.heap.size w w' :=
          fun w' h => by
            obtain ⟨hB', g1, g2⟩ := (HK.out w' h).out
            rw [HA.out] at g1
            rw [HB.out] at g2
            exact ⟨⟨⟨g1, g2⟩, ⟨(hEa.below hB' hba).kd, (hEa.below hB' hba).k, (hEa.below hB' hba).u, (hEa.below hB' hba).v, (hEa.below hB' hba).s⟩, ⟨(hEb.below hB' hbb).kd, (hEb.below hB' hbb).k, (hEb.below hB' hbb).u, (hEb.below hB' hbb).v, (hEb.below hB' hbb).s⟩⟩, hB'⟩
        have SS := Lib.hid hS
        have hD : Below W0.heap.size W0 wr.drew := hbw.drew
        clear hall hc' ha hb hxk hyk hI hS hEa hEb hB
        go_wp2_with fail
        go_region_held3 (fun w' => ((w'.cell? ⟨w.heap.size, 4, none⟩ = some (.slice (some ⟨ba, oa, none⟩) x.args.length x.cap) ∧ w'.cell? ⟨w.heap.size + 1, 4, none⟩ = some (.slice (some ⟨bb, ob, none⟩) x.args.length y.cap)) ∧
            (w'.cell? ⟨ba, oa + k * 5, none⟩ = some (.int .i64 xk.kd) ∧ w'.cell? ⟨ba, oa + k * 5 + 1, none⟩ = some (.int .i64 xk.k) ∧ w'.cell? ⟨ba, oa + k * 5 + 2, none⟩ = some (.int .i64 xk.u) ∧ w'.cell? ⟨ba, oa + k * 5 + 3, none⟩ = some (.int .i64 xk.v) ∧ w'.cell? ⟨ba, oa + k * 5 + 4, none⟩ = some (.slice xk.a xk.args.length xk.cap)) ∧
            (w'.cell? ⟨bb, ob + k * 5, none⟩ = some (.int .i64 yk.kd) ∧ w'.cell? ⟨bb, ob + k * 5 + 1, none⟩ = some (.int .i64 yk.k) ∧ w'.cell? ⟨bb, ob + k * 5 + 2, none⟩ = some (.int .i64 yk.u) ∧ w'.cell? ⟨bb, ob + k * 5 + 3, none⟩ = some (.int .i64 yk.v) ∧ w'.cell? ⟨bb, ob + k * 5 + 4, none⟩ = some (.slice yk.a yk.args.length yk.cap))))
          (first | exact (SS.out _ hbw).1 | exact (SS.out _ hD).1 | exact (SS.out _ H1).1)
          (first | (go_at_call 15; refine (HI.out _ (SS.out _ hD).2).mono ?_; rintro e w1 ⟨rfl, hb1⟩; have H1 := hD.trans (hb1.mono hD.size)))
        have HH1 := Lib.hid H1
        obtain ⟨hB1, _⟩ := (HK.out w1 H1).out
        clear H1 hD hb1 f1 f2
        cases c'
        · have HX := Lib.hid (show false = c by
            cases hcc : c
            · rfl
            · have h1 := HC.out.1 hcc
              have h2 := HC'.out.2 (er_part h1 k hlt hlt')
              cases h2)
          go_wp2_with fail
          go_ret
          exact ⟨congrArg (fun c : Bool => Ending.returned (.bool c)) HX.out, hB1⟩
        · go_wp2_with fail
          go_roundw
          case rel =>
            refine ⟨k + 1, by omega, by go_num, fun j h h' hj => ?_, HH1.out⟩
            rcases Nat.lt_or_ge j k with h1 | h1
            · exact HALL.out j h h' h1
            · have : j = k := by omega
              subst this
              exact HC'.out.1 rfl
          case measure => simp [intOf]; omega
      · obtain rfl : k = x.args.length := by omega
        have HX := Lib.hid (show true = c from (HC.out.2 (er_ext HQ.out.1 HQ.out.2.1 HQ.out.2.2.1 HQ.out.2.2.2.1 HQ.out.2.2.2.2 fun i h h' => hall i h h' h)).symm)
        clear hall hbw
        go_wp2_with fail
        go_ret
        exact ⟨congrArg (fun c : Bool => Ending.returned (.bool c)) HX.out, hB⟩
  · have HX := Lib.hid (show false = c from (HNO.out hal).symm)
    have hb2 : ∀ c t c' t', Below w.heap.size w ((w.alloc (.cells c t)).alloc (.cells c' t')) := fun c t c' t' => ((Below.refl _ _).alloc (Nat.le_refl _) _).alloc (by simp) _
    have HB2 := Lib.hid hb2
    unfold alikeT at hal
    simp only at hal
    have HAL := Lib.hid hal
    clear hal hb2 IH HRX HRY HNO HC
    unfold Ft.val
    by_cases q0 : x.kd = y.kd
    · have e10 : (x.kd != y.kd) = false := by rw [q0]; simp
      by_cases q1 : x.k = y.k
      · have e11 : (x.k != y.k) = false := by rw [q1]; simp
        by_cases q2 : x.u = y.u
        · have e12 : (x.u != y.u) = false := by rw [q2]; simp
          by_cases q3 : x.v = y.v
          · have e13 : (x.v != y.v) = false := by rw [q3]; simp
            by_cases q4 : x.args.length = y.args.length
            · exact absurd ⟨q0, q1, q2, q3, q4⟩ HAL.out
            · have e14 : ((x.args.length : Int) != (y.args.length : Int)) = true := bne_iff_ne.2 (by omega)
              clear q0 q1 q2 q3 q4
              go_enter Try.func15, Try.ntmps15
              go_wp2_with fail
              go_ret
              exact ⟨congrArg (fun c : Bool => Ending.returned (.bool c)) HX.out, HB2.out _ _ _ _⟩
          · have e13 : (x.v != y.v) = true := bne_iff_ne.2 (q3)
            clear q0 q1 q2 q3
            go_enter Try.func15, Try.ntmps15
            go_wp2_with fail
            go_ret
            exact ⟨congrArg (fun c : Bool => Ending.returned (.bool c)) HX.out, HB2.out _ _ _ _⟩
        · have e12 : (x.u != y.u) = true := bne_iff_ne.2 (q2)
          clear q0 q1 q2
          go_enter Try.func15, Try.ntmps15
          go_wp2_with fail
          go_ret
          exact ⟨congrArg (fun c : Bool => Ending.returned (.bool c)) HX.out, HB2.out _ _ _ _⟩
      · have e11 : (x.k != y.k) = true := bne_iff_ne.2 (q1)
        clear q0 q1
        go_enter Try.func15, Try.ntmps15
        go_wp2_with fail
        go_ret
        exact ⟨congrArg (fun c : Bool => Ending.returned (.bool c)) HX.out, HB2.out _ _ _ _⟩
    · have e10 : (x.kd != y.kd) = true := bne_iff_ne.2 (q0)
      clear q0
      go_enter Try.func15, Try.ntmps15
      go_wp2_with fail
      go_ret
      exact ⟨congrArg (fun c : Bool => Ending.returned (.bool c)) HX.out, HB2.out _ _ _ _⟩

open Classical in
noncomputable def prodE (A B : List Loc) : List Tw := (prodT A B).filter fun x => decide (x.1.2.er = x.2.2.er)
theorem prodE_mem {A B : List Loc} {x : Tw} : x ∈ prodE A B ↔ x ∈ prodT A B ∧ x.1.2.er = x.2.2.er := by simp [prodE]
theorem prodE_nodup {A B : List Loc} (h : ((prodT A B).map twAddr).Nodup) : ((prodE A B).map twAddr).Nodup := (List.filter_sublist.map twAddr).nodup h
theorem prodE_length (A B : List Loc) : (prodE A B).length ≤ (prodT A B).length := List.length_filter_le _ _

set_option maxRecDepth 100000 in
set_option maxHeartbeats 3200000 in
theorem implEqual (x y : Ft) (c : Bool) (hc : c = true ↔ x.er = y.er) (w : World) (hx : Solid w x) (hy : Solid w y) (hsz : x.er.size * y.er.size ≤ 1099511627776) : Calls Try.prog 14 #[x.val, y.val] w (GaveB (.bool c) w) := by
  have hr1 := hx.rooted
  have hbA : Below w.heap.size w (w.alloc (.cells #[.int .i64 x.kd, .int .i64 x.k, .int .i64 x.u, .int .i64 x.v, .slice x.a x.args.length x.cap] 26)) := (Below.refl _ _).alloc (Nat.le_refl _) _
  have hr2 := (hy.below hbA).rooted
  have hs1 : (w.alloc (.cells #[.int .i64 x.kd, .int .i64 x.k, .int .i64 x.u, .int .i64 x.v, .slice x.a x.args.length x.cap] 26)).heap.size = w.heap.size + 1 := by simp
  rw [hs1] at hr2
  have hla := Ft.nodes_length ⟨w.heap.size, 0, none⟩ x
  have hlb := Ft.nodes_length ⟨w.heap.size + 1, 0, none⟩ y
  obtain ⟨WA, hWA⟩ : ∃ W, w.alloc (.cells #[.int .i64 x.kd, .int .i64 x.k, .int .i64 x.u, .int .i64 x.v, .slice x.a x.args.length x.cap] 26) = W := ⟨_, rfl⟩
  rw [hWA] at hr1 hr2 hbA hs1
  have hbB : Below WA.heap.size WA (WA.alloc (.cells #[.int .i64 y.kd, .int .i64 y.k, .int .i64 y.u, .int .i64 y.v, .slice y.a y.args.length y.cap] 26)) := (Below.refl _ _).alloc (Nat.le_refl _) _
  obtain ⟨W0, hW0⟩ : ∃ W, WA.alloc (.cells #[.int .i64 y.kd, .int .i64 y.k, .int .i64 y.u, .int .i64 y.v, .slice y.a y.args.length y.cap] 26) = W := ⟨_, rfl⟩
  rw [hW0] at hr2 hbB
  have hb0 : Below w.heap.size w W0 := hbA.trans (hbB.mono (by omega))
  obtain ⟨f1, k1, n1, G1⟩ := hr1
  obtain ⟨f2, k2, n2, G2⟩ := hr2
  have G1' := G1.below hbB
  generalize x.nodes ⟨w.heap.size, 0, none⟩ = A at *
  generalize y.nodes ⟨w.heap.size + 1, 0, none⟩ = B at *
  obtain ⟨U, hUsub, hUr, hUc, hUe⟩ : ∃ U : List Tw, ((∀ z ∈ U, z ∈ prodT A B) ∧ (U.map twAddr).Nodup ∧ U.length ≤ (prodT A B).length) ∧ ((⟨w.heap.size, 0, none⟩, x), (⟨w.heap.size + 1, 0, none⟩, y)) ∈ U ∧ (∀ z ∈ U, ∀ q ∈ stepsT z, q ∈ U) ∧ (x.er = y.er → ∀ z ∈ U, z.1.2.er = z.2.2.er) := by
    have hst : ∀ z ∈ prodT A B, ∀ q ∈ stepsT z, q ∈ prodT A B := fun z hz q hq => by
      obtain ⟨z1, z2⟩ := prod_mem.1 hz
      obtain ⟨q1, q2⟩ := steps_mem hq
      exact prod_mem.2 ⟨k1 _ z1 _ q1, k2 _ z2 _ q2⟩
    by_cases he : x.er = y.er
    · refine ⟨prodE A B, ⟨fun z hz => (prodE_mem.1 hz).1, prodE_nodup (prod_nodup n1 n2), prodE_length A B⟩, prodE_mem.2 ⟨prod_mem.2 ⟨f1, f2⟩, he⟩, fun z hz q hq => ?_, fun _ z hz => (prodE_mem.1 hz).2⟩
      obtain ⟨z1, z2⟩ := prodE_mem.1 hz
      exact prodE_mem.2 ⟨hst z z1 q hq, steps_er z2 hq⟩
    · exact ⟨prodT A B, ⟨fun z hz => hz, prod_nodup n1 n2, Nat.le_refl _⟩, prod_mem.2 ⟨f1, f2⟩, hst, fun h => absurd h he⟩
  have hUG : GroundT U W0 := ⟨fun z hz => G1'.ok _ (prod_mem.1 (hUsub.1 z hz)).1, fun z hz => G2.ok _ (prod_mem.1 (hUsub.1 z hz)).2, fun z hz => G1'.len _ (prod_mem.1 (hUsub.1 z hz)).1⟩
  have hUl : U.length ≤ 1099511627776 := by
    have := hUsub.2.2
    rw [prod_length, hla, hlb] at this
    omega
  have HB0 := Lib.hid hb0
  have HRT := Lib.hid (implReachedT U _ W0 hUr hUc hUsub.2.1 hUG hUl)
  have HG := Lib.hid hUG
  have HE := Lib.hid hUe
  have HC := Lib.hid hc
  have HS1 := Lib.hid hs1
  unfold twV at HRT
  simp only at HRT
  clear hc hx hy hsz hbA hs1 hla hlb hbB hb0 f1 k1 n1 G1 f2 k2 n2 G2 G1' hUsub hUr hUc hUe hUG
  go_enter Try.func14, Try.ntmps14
  go_wp2_with fail
  clear hWA hW0
  rw [HS1.out]
  with_reducible refine HRT.out.mono ?_
  rintro e w1 ⟨L, a, cap, hmet, rfl, hown, hb1⟩
  have hrow := row2 hown
  have hLl : L.length ≤ 1099511627776 := Nat.le_trans (nodup_le (nodup_of_map hmet.nd) hmet.sub) hUl
  have HMET := Lib.hid hmet
  clear hmet hown
  go_wp2_with fail
  go_loopw [10] (fun i wr => ∃ k : Nat, k ≤ L.length ∧ i = .int .i64 k ∧ (∀ z ∈ L.take k, alikeT z) ∧ Row wr wr.heap.size a (L.flatMap twCells) ∧ Below W0.heap.size W0 wr) (fun i _ => L.length - (intOf i).toNat)
  case atStart => exact ⟨0, Nat.zero_le _, rfl, by simp, hrow, hb1⟩
  case round =>
    clear hrow hb1
    obtain ⟨k, hk, rfl, hall, hrow, hbw⟩ := hrel
    have hzw := hbw.size
    have hzb := HB0.out.size
    by_cases hlt : k < L.length
    · obtain ⟨b, o, ha, hbW, hcell0, hcell1⟩ := hrow.pair k hlt
      have hzL : L[k] ∈ L := List.getElem_mem hlt
      have hzt := take_next L k hlt
      generalize L[k] = z at *
      have hzU := HMET.out.sub z hzL
      have hbA : Below W0.heap.size W0 (wr.alloc (.cells #[.pointer (some z.1.1), .pointer (some z.2.1)] 65)) := hbw.alloc hzw _
      have hG := HG.out.below hbA
      have hAL := implAlike z _ (hG.ok1 z hzU) (hG.ok2 z hzU)
      unfold twV at hAL
      have HAL := Lib.hid hAL
      clear hAL
      have HALL := Lib.hid hall
      have HROW := Lib.hid hrow
      have HZT := Lib.hid hzt
      have HZU := Lib.hid hzU
      have HBA := Lib.hid hbA
      have HHA := Lib.hid ha
      subst ha
      clear hall hrow hzt hzU hzL hG hbA hbw
      go_wp2_with fail
      with_reducible refine HAL.out.mono ?_
      rintro e w2 ⟨rfl, hb2⟩
      have hbW2 := HBA.out.trans (hb2.mono HBA.out.size)
      have hbw2 : Below wr.heap.size wr w2 := ((Below.refl _ _).alloc (Nat.le_refl _) _).trans (hb2.mono (by simp))
      have HR2 := Lib.hid ((HROW.out.below hbw2).grow hbw2.size)
      have HB2 := Lib.hid hbW2
      have HFIN := Lib.hid (HB0.out.trans (hbW2.mono hzb))
      clear hcell0 hcell1 hb2 hbW2 hbw2
      by_cases hal : alikeT z
      · rw [decide_eq_true hal]
        have HALZ := Lib.hid hal
        clear hal
        go_wp2_with fail
        go_roundw
        case rel =>
          refine ⟨k + 1, by omega, by go_num, fun q hq => ?_, HR2.out, HB2.out⟩
          rw [HZT.out] at hq
          rcases List.mem_append.1 hq with hq | hq
          · exact HALL.out q hq
          · rw [List.mem_singleton.1 hq]
            exact HALZ.out
        case measure => simp [intOf]; omega
      · rw [decide_eq_false hal]
        have HX := Lib.hid (show false = c by
          cases hcc : c
          · rfl
          · exact absurd (alike_of_er (HE.out (HC.out.1 hcc) z HZU.out)) hal)
        clear hal
        go_wp2_with fail
        go_ret
        exact ⟨congrArg (fun c : Bool => Ending.returned (.bool c)) HX.out, HFIN.out⟩
    · obtain rfl : k = L.length := by omega
      rw [List.take_length] at hall
      have HX := Lib.hid (show true = c from (HC.out.2 (er_of_alike HMET.out.closed hall x ⟨w.heap.size, 0, none⟩ (⟨w.heap.size + 1, 0, none⟩, y) HMET.out.first)).symm)
      have HFIN := Lib.hid (HB0.out.trans (hbw.mono hzb))
      clear hall hrow hbw
      go_wp2_with fail
      go_ret
      exact ⟨congrArg (fun c : Bool => Ending.returned (.bool c)) HX.out, HFIN.out⟩
end Go.Proofs.Ythhhmlohfhioeaa
