/-
  The model's tests of a heap, its canonical heap.
-/
import Derived.Test.YtglcailcdcpadaaGreatDoorZ12
import Derived.Test.YtglcailcdcpadaaGreatDoorZ16
namespace Go.Proofs.YtglcailcdcpadaaGreatDoor
open Go Go.RowKit Go.Sort

theorem in_good (zs : List Int) (c : Int) : (decide (-1 ≤ c) && decide (c ≤ (zs.length : Int) - 1)) = (decide (c = -1) || isC zs c) := by
  by_cases h : c = -1
  · subst h
    simp
    omega
  · by_cases h0 : 0 ≤ c <;> by_cases h1 : c < (zs.length : Int)
    all_goals simp [isC, h, h0, h1]
    all_goals omega
theorem wrap_less {n : Nat} (h : n ≤ 9223372036854775807) : IntKind.i64.wrap ((n : Int) - 1) = (n : Int) - 1 := by
  simp [IntKind.wrap, IntKind.bits, IntKind.signed]
  omega
theorem goodB_miss {zs l : List Int} {k : Nat} (h : k < l.length) (hb : (decide (l[k] = -1) || isC zs l[k]) = false) : goodB zs l = false := by
  simp only [Bool.or_eq_false_iff, decide_eq_false_iff_not] at hb
  exact goodB_bad h hb.1 hb.2
theorem goodB_more {zs l : List Int} {k : Nat} (h : k < l.length) (ha : goodB zs (l.take k) = true) (hb : (decide (l[k] = -1) || isC zs l[k]) = true) : goodB zs (l.take (k + 1)) = true := by
  simp only [Bool.or_eq_true, decide_eq_true_eq] at hb
  exact goodB_next h ha hb

set_option maxRecDepth 100000 in
set_option maxHeartbeats 1600000 in
theorem specCells (a b : Option Addr) (ca cb : Nat) (vs zs : List Int) (w : World) (hv : vs.length ≤ maxLen) (hz : zs.length ≤ maxLen) (h : HeapAt w a b vs zs) :
    Calls Tryz.prog 128 #[heV a vs.length ca b zs.length cb] w (GaveX (.bool (goodH vs zs)) w) := by
  unfold maxLen at hv hz
  have hat : ∀ W, Below w.heap.size w W → HeapAt W a b vs zs := fun W hb => h.below hb (Nat.le_refl _)
  have HAT := Lib.hid hat
  clear hat h
  go_enter Tryz.func128, Tryz.ntmps128
  go_wp2
  obtain ⟨W0, hW0, hb0, hs0, hA0⟩ := one_box2 w (.slice a vs.length ca) (.slice b zs.length cb) 121
  rw [hW0]
  clear hW0
  have hS0 : ∀ W, Below W0.heap.size W0 W → W.cell? ⟨w.heap.size, 0, none⟩ = some (.slice a vs.length ca) ∧ W.cell? ⟨w.heap.size, 1, none⟩ = some (.slice b zs.length cb) := fun W hb => hA0.keep hs0 hb
  have HS0 := Lib.hid hS0
  clear hS0 hA0
  go_loopw [3] (fun i wr => ∃ k : Nat, k ≤ vs.length ∧ i = .int .i64 k ∧ goodB zs (vs.take k) = true ∧ Below W0.heap.size W0 wr) (fun i _ => vs.length - (intOf i).toNat)
  case atStart => exact ⟨0, Nat.zero_le _, rfl, rfl, Below.refl _ _⟩
  case round =>
    obtain ⟨k, hk, rfl, hall, hb⟩ := hrel
    have hBr := hb0.trans (hb.mono hb0.size)
    have Hall := Lib.hid hall
    clear hall
    obtain ⟨c0, c1⟩ := HS0.out _ hb
    by_cases hlt : k < vs.length
    · obtain ⟨bv, ov, rfl, hbv, hcv⟩ := (HAT.out _ hBr).v k _ (intVals_at vs k hlt)
      have hyes := goodB_more hlt Hall.out
      have hno := goodB_miss (zs := zs) hlt
      have hS : ∀ W, Below wr.heap.size wr W → (W.cell? ⟨w.heap.size, 0, none⟩ = some (.slice (some ⟨bv, ov, none⟩) vs.length ca) ∧ W.cell? ⟨w.heap.size, 1, none⟩ = some (.slice b zs.length cb)) ∧ W.cell? ⟨bv, ov + k, none⟩ = some (.int .i64 vs[k]) := fun W hB =>
        ⟨HS0.out _ (hb.trans (hB.mono hb.size)), (hB.cell (p := ⟨bv, ov + k, none⟩) hbv).trans hcv⟩
      have hin := in_good zs vs[k]
      generalize (decide (vs[k] = -1) || isC zs vs[k]) = q at *
      generalize vs[k] = x at *
      have hlz := wrap_less (n := zs.length) (by omega)
      have hD : Below wr.heap.size wr wr.drew := Below.drew (Below.refl _ _)
      have Hyes := Lib.hid hyes
      have Hno := Lib.hid hno
      clear hyes hno
      go_wp2
      clear c0 c1 hcv
      go_region_held3 (fun W => (W.cell? ⟨w.heap.size, 0, none⟩ = some (.slice (some ⟨bv, ov, none⟩) vs.length ca) ∧ W.cell? ⟨w.heap.size, 1, none⟩ = some (.slice b zs.length cb)) ∧ W.cell? ⟨bv, ov + k, none⟩ = some (.int .i64 x))
        (first | exact hS _ hD | exact hS _ (Below.drew hD))
        (first
          | (go_at_call 48; (with_reducible refine (specIn x (-1) ((zs.length : Int) - 1) _).mono ?_); rw [hin]; rintro e w1 ⟨rfl, rfl⟩))
      cases q with
      | false =>
        have hf := Lib.hid (show goodH vs zs = false by simp [goodH, Hno.out rfl])
        go_wp2
        go_ret
        rw [hf.out]
        exact ⟨rfl, hBr.trans (hD.mono hBr.size)⟩
      | true =>
        have hy := Lib.hid (Hyes.out rfl)
        go_wp2
        go_roundw
        case rel => exact ⟨k + 1, by omega, by go_num, hy.out, hb.trans (hD.mono hb.size)⟩
        case measure => simp [intOf]; omega
    · have hk' : k = vs.length := by omega
      have hgv : goodB zs vs = true := by have := Hall.out; rwa [hk', List.take_length] at this
      clear hk' Hall
      go_wp2
      go_loopw [4] (fun i wr => ∃ k : Nat, k ≤ zs.length ∧ i = .int .i64 k ∧ goodB zs (zs.take k) = true ∧ Below W0.heap.size W0 wr) (fun i _ => zs.length - (intOf i).toNat)
      case atStart => exact ⟨0, Nat.zero_le _, rfl, rfl, hb⟩
      case round =>
        clear hb hBr c0 c1
        obtain ⟨k, hk, rfl, hall, hb⟩ := hrel
        have hBr := hb0.trans (hb.mono hb0.size)
        have Hall := Lib.hid hall
        clear hall
        obtain ⟨c0, c1⟩ := HS0.out _ hb
        by_cases hlt : k < zs.length
        · obtain ⟨bv, ov, rfl, hbv, hcv⟩ := (HAT.out _ hBr).z k _ (intVals_at zs k hlt)
          have hyes := goodB_more hlt Hall.out
          have hno := goodB_miss (zs := zs) hlt
          have hS : ∀ W, Below wr.heap.size wr W → (W.cell? ⟨w.heap.size, 0, none⟩ = some (.slice a vs.length ca) ∧ W.cell? ⟨w.heap.size, 1, none⟩ = some (.slice (some ⟨bv, ov, none⟩) zs.length cb)) ∧ W.cell? ⟨bv, ov + k, none⟩ = some (.int .i64 zs[k]) := fun W hB =>
            ⟨HS0.out _ (hb.trans (hB.mono hb.size)), (hB.cell (p := ⟨bv, ov + k, none⟩) hbv).trans hcv⟩
          have hin := in_good zs zs[k]
          generalize (decide (zs[k] = -1) || isC zs zs[k]) = q at *
          generalize hzx : zs[k] = x at *
          have hlz := wrap_less (n := zs.length) (by omega)
          have hD : Below wr.heap.size wr wr.drew := Below.drew (Below.refl _ _)
          have Hyes := Lib.hid hyes
          have Hno := Lib.hid hno
          clear hyes hno hzx
          go_wp2
          clear c0 c1 hcv
          go_region_held3 (fun W => (W.cell? ⟨w.heap.size, 0, none⟩ = some (.slice a vs.length ca) ∧ W.cell? ⟨w.heap.size, 1, none⟩ = some (.slice (some ⟨bv, ov, none⟩) zs.length cb)) ∧ W.cell? ⟨bv, ov + k, none⟩ = some (.int .i64 x))
            (first | exact hS _ hD | exact hS _ (Below.drew hD))
            (first
              | (go_at_call 48; (with_reducible refine (specIn x (-1) ((zs.length : Int) - 1) _).mono ?_); rw [hin]; rintro e w1 ⟨rfl, rfl⟩))
          cases q with
          | false =>
            have hf := Lib.hid (show goodH vs zs = false by simp [goodH, Hno.out rfl])
            go_wp2
            go_ret
            rw [hf.out]
            exact ⟨rfl, hBr.trans (hD.mono hBr.size)⟩
          | true =>
            have hy := Lib.hid (Hyes.out rfl)
            go_wp2
            go_roundw
            case rel => exact ⟨k + 1, by omega, by go_num, hy.out, hb.trans (hD.mono hb.size)⟩
            case measure => simp [intOf]; omega
        · have hk' : k = zs.length := by omega
          have hgz : goodB zs zs = true := by have := Hall.out; rwa [hk', List.take_length] at this
          have hf := Lib.hid (show goodH vs zs = true by simp [goodH, hgv, hgz])
          clear hk'
          go_wp2
          go_ret
          rw [hf.out]
          exact ⟨rfl, hBr⟩
end Go.Proofs.YtglcailcdcpadaaGreatDoor
