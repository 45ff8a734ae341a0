/-
  The program's question for a cell that no variable reaches.
-/
import Derived.Deep.RegionLaw
import Derived.Test.YtpmmjaceehlpiaaGreatDoorF01
namespace Go.Proofs.YtpmmjaceehlpiaaGreatDoor
open Go Go.RowKit Go.Maps Go.Sort

theorem lenMap {w : World} {mb : Nat} {o : List Int} (hn : o.Nodup) (h : Numbers Unit w mb o) (ty : TypeId) : (Builtin.len_ #[152] ty #[.map (some mb)]).run Tryz.prog w = .ok (.int .i64 (o.length : Int)) w := by
  have := World.ownsMap.len h Tryz.underlying152 ty
  rw [(says (H := Unit) hn).size_] at this
  exact this
set_option maxRecDepth 100000 in
set_option maxHeartbeats 1600000 in
theorem implHasLeak (a b : Option Addr) (ca cb : Nat) (vs zs : List Int) (w : World) (hv : vs.length ≤ 1048576) (hz : zs.length ≤ 1048576) (h : HeapAt w a b vs zs) :
    Calls Tryz.prog 135 #[heV a vs.length ca b zs.length cb] w (GaveX (.bool (leakB vs zs)) w) := by
  go_enter Tryz.func135, Tryz.ntmps135
  go_wp2_with fail
  obtain ⟨W0, hW0, hb0, hs0, hA0⟩ := one_box2 w (.slice a vs.length ca) (.slice b zs.length cb) 30
  rw [hW0]
  clear hW0
  obtain ⟨c0, c1⟩ := hA0
  have hA0 : Box2 W0 w.heap.size (.slice a vs.length ca) (.slice b zs.length cb) := ⟨c0, c1⟩
  have hS : ∀ W, Below W0.heap.size W0 W → W.cell? ⟨w.heap.size, 0, none⟩ = some (.slice a vs.length ca) ∧ W.cell? ⟨w.heap.size, 1, none⟩ = some (.slice b zs.length cb) := fun W hb => hA0.keep hs0 hb
  have hat : ∀ W, Below W0.heap.size W0 W → HeapAt W a b vs zs := fun W hb => h.below (hb0.trans (hb.mono hb0.size)) (Nat.le_refl _)
  have hD : ∀ n, Below W0.heap.size W0 (W0.drewN n) := fun n => below_draws (Below.refl _ _) n
  cases hg : goodB zs zs with
  | false =>
    have hl := Lib.hid (leak_bad (vs := vs) hg)
    replace c0 := fun d os => cell_regrown c0 d os
    replace c1 := fun d os => cell_regrown c1 d os
    have HC := Lib.hid (show ∀ d os, Calls Tryz.prog 94 #[heV a vs.length ca b zs.length cb, .slice b zs.length cb] (grow (redrawn W0 d) os) (GaveX (.bool false) (grow (redrawn W0 d) os)) from fun d os => hg ▸ implAreTargets a b b vs.length ca cb cb zs zs _ hz ((hat _ (Below.refl _ _)).again d os).z)
    clear hS hat hD
    refine wp_region_quiet_below (by kernel_rfl) (by kernel_rfl) ?_
    repeat (go_big_quiet_step (first | (go_at_call 94; with_reducible exact at_again (HC.out _ _))))
    refine wpQuiet_nil ?_
    rintro w1 ⟨⟨d, os⟩, rfl⟩
    have H1 := below_regrown W0 d os
    go_wp2
    go_ret
    rw [hl.out]
    exact ⟨rfl, hb0.trans (H1.mono hb0.size)⟩
  | true =>
    have hl := Lib.hid (leak_good (vs := vs) hg)
    have HAT := Lib.hid hat
    have HS := Lib.hid hS
    have HD := Lib.hid hD
    clear hat hS hD hA0 c0 c1
    obtain ⟨c0, c1⟩ := HS.out _ (Below.refl _ _)
    go_region_law
      (first
        | (go_simp; go_at_call 94; (with_reducible refine (implAreTargets a b b vs.length ca cb cb zs zs _ hz (HAT.out _ (Below.drew (Below.refl _ _))).z).mono ?_); rw [hg]; rintro e w1 ⟨rfl, hb1⟩; have H1 := (Below.drew (Below.refl W0.heap.size W0)).trans hb1; have d0 := (HS.out _ H1).1; have d1 := (HS.out _ H1).2)
        | (go_simp; go_at_call 131; (with_reducible refine (implNumbersOf a b ca cb vs zs _ hv hz (HAT.out _ H1)).mono ?_); rintro e w2 ⟨mb, rfl, hmb, hnum, hb2⟩; have H2 := H1.trans (hb2.mono (Below.size H1)); have d2 := (HS.out _ H2).1; have d3 := (HS.out _ H2).2; have hml := lenMap (order_end vs zs).nodup hnum))
    all_goals
      go_wp2
      go_ret
      rw [hl.out]
      exact ⟨rfl, hb0.trans (H2.mono hb0.size)⟩
end Go.Proofs.YtpmmjaceehlpiaaGreatDoor
