/-
  The two EqualFormula.
-/
import Derived.Deep.RegionHeld3
import Derived.Test.YtplchhahjmoodaaGreatDoorZ33
import Derived.Test.YtplchhahjmoodaaGreatDoorZ09
namespace Go.Proofs.YtplchhahjmoodaaGreatDoor
open Go Go.RowKit Go.ChangeAt Go.ChangeShapes Go.WideShapes

theorem er_ext {x y : Ft} (h1 : x.kd = y.kd) (h2 : x.k = y.k) (h3 : x.u = y.u) (h4 : x.v = y.v) (hl : x.args.length = y.args.length) (hp : ∀ (i : Nat) (h : i < x.args.length) (h' : i < y.args.length), (x.args[i]).er = (y.args[i]).er) : x.er = y.er := by
  rw [Ft.er_eq, Ft.er_eq y, h1, h2, h3, h4]
  congr 1
  apply List.ext_getElem (by simp [hl])
  intro i g1 g2
  rw [List.length_map] at g1 g2
  simp only [List.getElem_map]
  exact hp i g1 g2

open Classical in
noncomputable def prodE (A B : List Loc) : List Tw := (prodT A B).filter fun x => decide (x.1.2.er = x.2.2.er)
theorem prodE_mem {A B : List Loc} {x : Tw} : x ∈ prodE A B ↔ x ∈ prodT A B ∧ x.1.2.er = x.2.2.er := by simp [prodE]
theorem prodE_nodup {A B : List Loc} (h : ((prodT A B).map twAddr).Nodup) : ((prodE A B).map twAddr).Nodup := (List.filter_sublist.map twAddr).nodup h
theorem prodE_length (A B : List Loc) : (prodE A B).length ≤ (prodT A B).length := List.length_filter_le _ _

set_option maxRecDepth 100000 in
set_option maxHeartbeats 3200000 in
theorem implEqual (x y : Ft) (c : Bool) (hc : c = true ↔ x.er = y.er) (w : World) (hx : Solid w x) (hy : Solid w y) (hsz : x.er.size * y.er.size ≤ 1099511627776) : Calls Tryz.prog 10 #[x.val, y.val] w (GaveB (.bool c) w) := by
  have hr1 := hx.rooted
  have hbA : Below w.heap.size w (w.alloc (.cells #[.int .i64 x.kd, .int .i64 x.k, .int .i64 x.u, .int .i64 x.v, .slice x.a x.args.length x.cap] 27)) := (Below.refl _ _).alloc (Nat.le_refl _) _
  have hr2 := (hy.below hbA).rooted
  have hs1 : (w.alloc (.cells #[.int .i64 x.kd, .int .i64 x.k, .int .i64 x.u, .int .i64 x.v, .slice x.a x.args.length x.cap] 27)).heap.size = w.heap.size + 1 := by simp
  rw [hs1] at hr2
  have hla := Ft.nodes_length ⟨w.heap.size, 0, none⟩ x
  have hlb := Ft.nodes_length ⟨w.heap.size + 1, 0, none⟩ y
  obtain ⟨WA, hWA⟩ : ∃ W, w.alloc (.cells #[.int .i64 x.kd, .int .i64 x.k, .int .i64 x.u, .int .i64 x.v, .slice x.a x.args.length x.cap] 27) = W := ⟨_, rfl⟩
  rw [hWA] at hr1 hr2 hbA hs1
  have hbB : Below WA.heap.size WA (WA.alloc (.cells #[.int .i64 y.kd, .int .i64 y.k, .int .i64 y.u, .int .i64 y.v, .slice y.a y.args.length y.cap] 27)) := (Below.refl _ _).alloc (Nat.le_refl _) _
  obtain ⟨W0, hW0⟩ : ∃ W, WA.alloc (.cells #[.int .i64 y.kd, .int .i64 y.k, .int .i64 y.u, .int .i64 y.v, .slice y.a y.args.length y.cap] 27) = W := ⟨_, rfl⟩
  rw [hW0] at hr2 hbB
  have hb0 : Below w.heap.size w W0 := hbA.trans (hbB.mono (by omega))
  obtain ⟨f1, k1, n1, G1⟩ := hr1
  obtain ⟨f2, k2, n2, G2⟩ := hr2
  have G1' := G1.below hbB
  generalize x.nodes ⟨w.heap.size, 0, none⟩ = A at *
  generalize y.nodes ⟨w.heap.size + 1, 0, none⟩ = B at *
  obtain ⟨U, hUsub, hUr, hUc, hUe⟩ : ∃ U : List Tw, ((∀ z ∈ U, z ∈ prodT A B) ∧ (U.map twAddr).Nodup ∧ U.length ≤ (prodT A B).length) ∧ ((⟨w.heap.size, 0, none⟩, x), (⟨w.heap.size + 1, 0, none⟩, y)) ∈ U ∧ (∀ z ∈ U, ∀ q ∈ stepsT z, q ∈ U) ∧ (x.er = y.er → ∀ z ∈ U, z.1.2.er = z.2.2.er) := by
    have hst : ∀ z ∈ prodT A B, ∀ q ∈ stepsT z, q ∈ prodT A B := fun z hz q hq => by
      obtain ⟨z1, z2⟩ := prod_mem.1 hz
      obtain ⟨q1, q2⟩ := steps_mem hq
      exact prod_mem.2 ⟨k1 _ z1 _ q1, k2 _ z2 _ q2⟩
    by_cases he : x.er = y.er
    · refine ⟨prodE A B, ⟨fun z hz => (prodE_mem.1 hz).1, prodE_nodup (prod_nodup n1 n2), prodE_length A B⟩, prodE_mem.2 ⟨prod_mem.2 ⟨f1, f2⟩, he⟩, fun z hz q hq => ?_, fun _ z hz => (prodE_mem.1 hz).2⟩
      obtain ⟨z1, z2⟩ := prodE_mem.1 hz
      exact prodE_mem.2 ⟨hst z z1 q hq, steps_er z2 hq⟩
    · exact ⟨prodT A B, ⟨fun z hz => hz, prod_nodup n1 n2, Nat.le_refl _⟩, prod_mem.2 ⟨f1, f2⟩, hst, fun h => absurd h he⟩
  have hUG : GroundT U W0 := ⟨fun z hz => G1'.ok _ (prod_mem.1 (hUsub.1 z hz)).1, fun z hz => G2.ok _ (prod_mem.1 (hUsub.1 z hz)).2, fun z hz => G1'.len _ (prod_mem.1 (hUsub.1 z hz)).1⟩
  have hUl : U.length ≤ 1099511627776 := by
    have := hUsub.2.2
    rw [prod_length, hla, hlb] at this
    omega
  have HB0 := Lib.hid hb0
  have HRT := Lib.hid (implReachedT U _ W0 hUr hUc hUsub.2.1 hUG hUl)
  have HG := Lib.hid hUG
  have HE := Lib.hid hUe
  have HC := Lib.hid hc
  have HS1 := Lib.hid hs1
  unfold twV at HRT
  simp only at HRT
  clear hc hx hy hsz hbA hs1 hla hlb hbB hb0 f1 k1 n1 G1 f2 k2 n2 G2 G1' hUsub hUr hUc hUe hUG
  go_enter Tryz.func10, Tryz.ntmps10
  go_wp2_with fail
  clear hWA hW0
  rw [HS1.out]
  with_reducible refine HRT.out.mono ?_
  rintro e w1 ⟨L, a, cap, hmet, rfl, hown, hb1⟩
  have hrow := row2 hown
  have hLl : L.length ≤ 1099511627776 := Nat.le_trans (nodup_le (nodup_of_map hmet.nd) hmet.sub) hUl
  have HMET := Lib.hid hmet
  clear hmet hown
  go_wp2_with fail
  go_loopw [10] (fun i wr => ∃ k : Nat, k ≤ L.length ∧ i = .int .i64 k ∧ (∀ z ∈ L.take k, alikeT z) ∧ Row wr wr.heap.size a (L.flatMap twCells) ∧ Below W0.heap.size W0 wr) (fun i _ => L.length - (intOf i).toNat)
  case atStart => exact ⟨0, Nat.zero_le _, rfl, by simp, hrow, hb1⟩
  case round =>
    clear hrow hb1
    obtain ⟨k, hk, rfl, hall, hrow, hbw⟩ := hrel
    have hzw := hbw.size
    have hzb := HB0.out.size
    by_cases hlt : k < L.length
    · obtain ⟨b, o, ha, hbW, hcell0, hcell1⟩ := hrow.pair k hlt
      have hzL : L[k] ∈ L := List.getElem_mem hlt
      have hzt := take_next L k hlt
      generalize L[k] = z at *
      have hzU := HMET.out.sub z hzL
      have hbA : Below W0.heap.size W0 (wr.alloc (.cells #[.pointer (some z.1.1), .pointer (some z.2.1)] 65)) := hbw.alloc hzw _
      have hG := HG.out.below hbA
      have hAL := implAlike z _ (hG.ok1 z hzU) (hG.ok2 z hzU)
      unfold twV at hAL
      have HAL := Lib.hid hAL
      clear hAL
      have HALL := Lib.hid hall
      have HROW := Lib.hid hrow
      have HZT := Lib.hid hzt
      have HZU := Lib.hid hzU
      have HBA := Lib.hid hbA
      have HHA := Lib.hid ha
      subst ha
      clear hall hrow hzt hzU hzL hG hbA hbw
      go_wp2_with fail
      with_reducible refine HAL.out.mono ?_
      rintro e w2 ⟨rfl, hb2⟩
      have hbW2 := HBA.out.trans (hb2.mono HBA.out.size)
      have hbw2 : Below wr.heap.size wr w2 := ((Below.refl _ _).alloc (Nat.le_refl _) _).trans (hb2.mono (by simp))
      have HR2 := Lib.hid ((HROW.out.below hbw2).grow hbw2.size)
      have HB2 := Lib.hid hbW2
      have HFIN := Lib.hid (HB0.out.trans (hbW2.mono hzb))
      clear hcell0 hcell1 hb2 hbW2 hbw2
      by_cases hal : alikeT z
      · rw [decide_eq_true hal]
        have HALZ := Lib.hid hal
        clear hal
        go_wp2_with fail
        go_roundw
        case rel =>
          refine ⟨k + 1, by omega, by go_num, fun q hq => ?_, HR2.out, HB2.out⟩
          rw [HZT.out] at hq
          rcases List.mem_append.1 hq with hq | hq
          · exact HALL.out q hq
          · rw [List.mem_singleton.1 hq]
            exact HALZ.out
        case measure => simp [intOf]; omega
      · rw [decide_eq_false hal]
        have HX := Lib.hid (show false = c by
          cases hcc : c
          · rfl
          · exact absurd (alike_of_er (HE.out (HC.out.1 hcc) z HZU.out)) hal)
        clear hal
        go_wp2_with fail
        go_ret
        exact ⟨congrArg (fun c : Bool => Ending.returned (.bool c)) HX.out, HFIN.out⟩
    · obtain rfl : k = L.length := by omega
      rw [List.take_length] at hall
      have HX := Lib.hid (show true = c from (HC.out.2 (er_of_alike HMET.out.closed hall x ⟨w.heap.size, 0, none⟩ (⟨w.heap.size + 1, 0, none⟩, y) HMET.out.first)).symm)
      have HFIN := Lib.hid (HB0.out.trans (hbw.mono hzb))
      clear hall hrow hbw
      go_wp2_with fail
      go_ret
      exact ⟨congrArg (fun c : Bool => Ending.returned (.bool c)) HX.out, HFIN.out⟩
end Go.Proofs.YtplchhahjmoodaaGreatDoor
