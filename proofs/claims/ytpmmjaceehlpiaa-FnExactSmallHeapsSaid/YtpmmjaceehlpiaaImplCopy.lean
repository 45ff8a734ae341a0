/-
  The program's copy of a heap.
-/
import Derived.Test.YtpmmjaceehlpiaaLibRows
import Derived.Test.YtpmmjaceehlpiaaBoxes
import Derived.Test.YtpmmjaceehlpiaaImplCanon
import Derived.Deep.RegionHeld3
namespace Go.Proofs.Ytpmmjaceehlpiaa
open Go Go.RowKit

theorem heapIn_pair {lo b3 b4 : Nat} {W : World} {oa ob : Option Addr} {oca ocb : Nat} {vs zs : List Int} (h3 : W.ownsRow b3 3 1 (.slice oa vs.length oca) vs.length (intVals vs)) (h4 : W.ownsRow b4 3 1 (.slice ob zs.length ocb) zs.length (intVals zs)) (l3 : lo ≤ b3) (l4 : lo ≤ b4)
    (ha : ∀ j, (Value.slice oa vs.length oca).ownBlock = some j → (Value.slice ob zs.length ocb).ownBlock ≠ some j) : HeapIn lo W.heap.size W oa oca ob ocb (intVals vs) (intVals zs) :=
  ⟨by rw [intVals_length]; exact (OwnIn.of h3).mono l3 (Nat.le_refl _) (Nat.le_refl _), by rw [intVals_length]; exact (OwnIn.of h4).mono l4 (Nat.le_refl _) (Nat.le_refl _), by rw [intVals_length, intVals_length]; exact ha⟩
set_option maxHeartbeats 1600000 in
set_option maxRecDepth 100000 in
theorem implCopy (a b : Option Addr) (ca cb : Nat) (vs zs : List Int) (w : World) (hl : vs.length ≤ 1048576) (he : zs.length ≤ 1048576) (hr : HeapAt w a b vs zs) :
    Calls Try.prog 32 #[heV a vs.length ca b zs.length cb] w (MadeHeap vs zs w) := by
  go_enter Try.func32, Try.ntmps32
  go_wp2_with fail
  obtain ⟨W0, hW0, hb0, hA0, hA1⟩ := two_boxL w [.slice a vs.length ca, .slice b zs.length cb] [.slice none 0 0, .slice none 0 0] 34 34
  simp only [List.toArray] at hW0
  rw [hW0]
  clear hW0
  have hz0 := hA1.lt
  have hA : ∀ W, Below W0.heap.size W0 W → (W.cell? ⟨w.heap.size, 0, none⟩ = some (.slice a vs.length ca) ∧ W.cell? ⟨w.heap.size, 1, none⟩ = some (.slice b zs.length cb)) ∧ HeapAt W a b vs zs ∧ BoxL W (w.heap.size + 1) [.slice none 0 0, .slice none 0 0] := fun W hb =>
    have h0 := hA0.below hb
    ⟨⟨h0.c 0 _ rfl, h0.c 1 _ rfl⟩, hr.below (hb0.trans (hb.mono hb0.size)) (Nat.le_refl _), hA1.below hb⟩
  have hS : ∀ W, Below (w.heap.size + 1) W0 W → W.cell? ⟨w.heap.size, 0, none⟩ = some (.slice a vs.length ca) ∧ W.cell? ⟨w.heap.size, 1, none⟩ = some (.slice b zs.length cb) := fun W h =>
    ⟨(h.cell (p := ⟨w.heap.size, 0, none⟩) (by show w.heap.size < _; omega)).trans (hA0.c 0 _ rfl), (h.cell (p := ⟨w.heap.size, 1, none⟩) (by show w.heap.size < _; omega)).trans (hA0.c 1 _ rfl)⟩
  have HA := Lib.hid hA
  have HS := Lib.hid hS
  clear hA hS hA0 hA1 hr
  go_region_held3 (fun W => W.cell? ⟨w.heap.size, 0, none⟩ = some (.slice a vs.length ca) ∧ W.cell? ⟨w.heap.size, 1, none⟩ = some (.slice b zs.length cb))
    (exact HS.out _ (by repeat (first | with_reducible exact Below.refl _ _ | with_reducible exact H4.mono (Nat.le_of_lt hz0) | with_reducible exact H3.mono (Nat.le_of_lt hz0) | with_reducible refine Below.drew ?_ | refine Below.setCell ?_ (Nat.le_refl (w.heap.size + 1)) _)))
    (first
      | (go_at_call 40; (with_reducible refine (libClone a ca vs _ hl (HA.out _ (Below.drew (Below.refl _ _))).2.1.v).mono ?_); rintro e w3 ⟨oa, oca, rfl, ho3, hb3⟩; have H3 : Below W0.heap.size W0 w3 := Below.trans (Below.drew (Below.refl _ _)) (hb3.mono (Nat.le_refl _)))
      | (go_at_call 40; (with_reducible refine (libClone b cb zs _ he (HA.out _ H3).2.1.z).mono ?_); rintro e w4 ⟨ob, ocb, rfl, ho4, hb4⟩; have H4 : Below W0.heap.size W0 w4 := H3.trans (hb4.mono H3.size); have E4 := (HA.out _ H4).2.2; have e40 := E4.c 0 _ rfl; have e41 := E4.c 1 _ rfl; have f4 := E4.f; have l4 := E4.lt; have hin := heapIn_pair (lo := W0.heap.size) (own_keeps ho3 hb4) ho4 (Nat.le_refl _) H3.size (fun j h1 h2 => by have h1 := (ho3.lt j h1).2; have h2 := (ho4.lt j h2).1; omega)))
  have tq : Turn w.heap.size (w.heap.size + 2) w4 ((w4.setCell ⟨w.heap.size + 1, 0, none⟩ (.slice oa vs.length oca)).setCell ⟨w.heap.size + 1, 1, none⟩ (.slice ob zs.length ocb)) := ((turn_set _ _ _ _).trans (turn_set _ _ _ _)).mono (by omega) (by omega)
  have hbE := Turn.below (B := w.heap.size) (hb0.trans (H4.mono (by omega))) tq (Nat.le_refl _) (Nat.le_trans (by omega) H4.size)
  have hend := Lib.hid (show _ ∧ _ from ⟨(hin.turn tq (.inr (by omega))).mono (lo' := w.heap.size) (by omega) tq.size (Nat.le_refl _), hbE⟩)
  clear hin hbE tq ho3 ho4
  go_wp2
  exact bodyPost_ret (v := heV oa vs.length oca ob zs.length ocb) (by simp [results, Try.results32, go_sem, e40, e41]) rfl ⟨oa, oca, ob, ocb, rfl, hend.out⟩
end Go.Proofs.Ytpmmjaceehlpiaa
