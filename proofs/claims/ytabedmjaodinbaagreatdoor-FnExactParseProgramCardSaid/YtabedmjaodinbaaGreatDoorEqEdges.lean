/-
  The law's comparison of two edges, two rows of edges, two programs: true where both hold the same.
-/
import Derived.Test.YtabedmjaodinbaaGreatDoorEqStrs
import Derived.Test.YtabedmjaodinbaaGreatDoorEdges
import Derived.Test.YtabedmjaodinbaaGreatDoorStmt
import Derived.Deep.RegionHeld3
namespace Go.Proofs.YtabedmjaodinbaaGreatDoor
open Go Go.RowKit

set_option maxHeartbeats 400000 in
theorem eqEdgeSame (x : Ed) (w : World) : Calls Tryz.prog 87 #[edV x.f x.t x.k x.a x.b, edV x.f x.t x.k x.a x.b] w (GaveB (.bool true) w) := by
  obtain ⟨f, t, k, a, b⟩ := x
  go_enter Tryz.func87, Tryz.ntmps87
  go_wp2_with fail
  refine (eqStmtSame k a b _).mono ?_
  rintro e w1 ⟨rfl, hb1⟩
  have hB : Below w.heap.size w w1 := by
    refine Below.trans ?_ (hb1.mono (by simp <;> omega))
    repeat (first | with_reducible exact Below.refl _ _ | with_reducible refine Below.alloc ?_ (by simp <;> omega) _ | with_reducible refine Below.setCell ?_ (by simp <;> omega) _)
  go_wp2
  go_ret
  exact ⟨rfl, hB⟩

set_option maxHeartbeats 400000 in
theorem eqEdges (a b : Option Addr) (ca cb : Nat) (es : List Ed) (w : World) (hn : es.length ≤ maxLen) (ha : Row w w.heap.size a (edVals es)) (hb : Row w w.heap.size b (edVals es)) :
    Calls Tryz.prog 51 #[.slice a es.length ca, .slice b es.length cb] w (GaveB (.bool true) w) := by
  unfold maxLen at hn
  go_enter Tryz.func51, Tryz.ntmps51
  go_wp2
  go_loopw [5] (fun i wr => ∃ k : Nat, k ≤ es.length ∧ i = .int .i64 k ∧ Below w.heap.size w wr) (fun i _ => es.length - (intOf i).toNat)
  case atStart => exact ⟨0, Nat.zero_le _, rfl, Below.refl _ _⟩
  case round =>
    obtain ⟨k, hk, rfl, hbw⟩ := hrel
    by_cases hlt : k < es.length
    · obtain ⟨ba, oa, rfl, hba, hEa⟩ := ha.edge k hlt
      obtain ⟨bb, ob, rfl, hbb, hEb⟩ := hb.edge k hlt
      obtain ⟨c0, c1, c2, c3, c4⟩ := hEa.below hbw hba
      obtain ⟨d0, d1, d2, d3, d4⟩ := hEb.below hbw hbb
      generalize es[k] = x at *
      have hS : ∀ w', Below w.heap.size w w' → (w'.cell? ⟨ba, oa + k * 5, none⟩ = some (.int .i64 x.f) ∧ w'.cell? ⟨ba, oa + k * 5 + 1, none⟩ = some (.int .i64 x.t) ∧ w'.cell? ⟨ba, oa + k * 5 + 2, none⟩ = some (.int .i64 x.k) ∧ w'.cell? ⟨ba, oa + k * 5 + 3, none⟩ = some (.string x.a) ∧ w'.cell? ⟨ba, oa + k * 5 + 4, none⟩ = some (.string x.b)) ∧
          (w'.cell? ⟨bb, ob + k * 5, none⟩ = some (.int .i64 x.f) ∧ w'.cell? ⟨bb, ob + k * 5 + 1, none⟩ = some (.int .i64 x.t) ∧ w'.cell? ⟨bb, ob + k * 5 + 2, none⟩ = some (.int .i64 x.k) ∧ w'.cell? ⟨bb, ob + k * 5 + 3, none⟩ = some (.string x.a) ∧ w'.cell? ⟨bb, ob + k * 5 + 4, none⟩ = some (.string x.b)) ∧ Below w.heap.size w w' :=
        fun w' h => ⟨⟨(hEa.below h hba).f, (hEa.below h hba).t, (hEa.below h hba).k, (hEa.below h hba).a, (hEa.below h hba).b⟩, ⟨(hEb.below h hbb).f, (hEb.below h hbb).t, (hEb.below h hbb).k, (hEb.below h hbb).a, (hEb.below h hbb).b⟩, h⟩
      clear hEa hEb c0 c1 c2 c3 c4 d0 d1 d2 d3 d4
      go_wp2_with fail
      go_region_held3 (fun w' => (w'.cell? ⟨ba, oa + k * 5, none⟩ = some (.int .i64 x.f) ∧ w'.cell? ⟨ba, oa + k * 5 + 1, none⟩ = some (.int .i64 x.t) ∧ w'.cell? ⟨ba, oa + k * 5 + 2, none⟩ = some (.int .i64 x.k) ∧ w'.cell? ⟨ba, oa + k * 5 + 3, none⟩ = some (.string x.a) ∧ w'.cell? ⟨ba, oa + k * 5 + 4, none⟩ = some (.string x.b)) ∧
          (w'.cell? ⟨bb, ob + k * 5, none⟩ = some (.int .i64 x.f) ∧ w'.cell? ⟨bb, ob + k * 5 + 1, none⟩ = some (.int .i64 x.t) ∧ w'.cell? ⟨bb, ob + k * 5 + 2, none⟩ = some (.int .i64 x.k) ∧ w'.cell? ⟨bb, ob + k * 5 + 3, none⟩ = some (.string x.a) ∧ w'.cell? ⟨bb, ob + k * 5 + 4, none⟩ = some (.string x.b)) ∧ Below w.heap.size w w')
        (first | assumption | exact hS _ (Below.drew hbw) | exact hS _ hB)
        (first | (go_at_call 87; refine (eqEdgeSame x _).mono ?_; rintro e w1 ⟨rfl, hb1⟩; have hB := (Below.drew hbw).trans (hb1.mono (Below.drew hbw).size)))
      clear hS
      go_wp2
      go_roundw
      case rel => exact ⟨k + 1, by omega, by go_num, hB⟩
      case measure => simp [intOf]; omega
    · go_wp2
      go_ret
      exact ⟨rfl, hbw⟩

set_option maxHeartbeats 800000 in
theorem eqProgramSame (a b c d : Option Addr) (ca cb cc cd : Nat) (ss : List ByteArray) (p : Int) (es : List Ed) (w : World) (hn : ss.length ≤ maxLen) (hm : es.length ≤ maxLen) (ha : Row w w.heap.size a (strVals ss)) (hb : Row w w.heap.size b (edVals es)) (hc : Row w w.heap.size c (strVals ss)) (hd : Row w w.heap.size d (edVals es)) :
    Calls Tryz.prog 21 #[.agg #[.slice a ss.length ca, .int .i64 p, .slice b es.length cb], .agg #[.slice c ss.length cc, .int .i64 p, .slice d es.length cd]] w (GaveB (.bool true) w) := by
  have key : ∀ W, Below w.heap.size w W → (Row W W.heap.size a (strVals ss) ∧ Row W W.heap.size c (strVals ss)) ∧ (Row W W.heap.size b (edVals es) ∧ Row W W.heap.size d (edVals es)) := fun W h => ⟨⟨(ha.below h).grow h.size, (hc.below h).grow h.size⟩, ⟨(hb.below h).grow h.size, (hd.below h).grow h.size⟩⟩
  go_enter Tryz.func21, Tryz.ntmps21
  go_wp2_with fail
  refine (eqStrs a c ca cc ss _ hn (key _ ?_).1.1 (key _ ?_).1.2).mono ?_
  · repeat (first | with_reducible exact Below.refl _ _ | with_reducible refine Below.alloc ?_ (by simp <;> omega) _ | with_reducible refine Below.setCell ?_ (by simp <;> omega) _)
  · repeat (first | with_reducible exact Below.refl _ _ | with_reducible refine Below.alloc ?_ (by simp <;> omega) _ | with_reducible refine Below.setCell ?_ (by simp <;> omega) _)
  rintro e w1 ⟨d1, rfl, rfl⟩
  go_wp2_with fail
  have hB0 : ∀ u v t, Below w.heap.size w ((((w.alloc (.cells u t)).alloc (.cells v t))).drewN d1) := fun u v t => below_draws (((Below.refl _ _).alloc (Nat.le_refl _) _).alloc (by simp) _) _
  refine (eqEdges b d cb cd es _ hm (key _ (hB0 _ _ _)).2.1 (key _ (hB0 _ _ _)).2.2).mono ?_
  rintro e w2 ⟨rfl, hb2⟩
  have hB2 := (hB0 _ _ _).trans (hb2.mono (hB0 _ _ _).size)
  go_wp2
  go_ret
  exact ⟨rfl, hB2⟩
end Go.Proofs.YtabedmjaodinbaaGreatDoor
