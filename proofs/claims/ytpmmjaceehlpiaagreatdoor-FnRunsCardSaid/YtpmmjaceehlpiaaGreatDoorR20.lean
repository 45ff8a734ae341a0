/-
  The model's test whether a heap is one.
-/
import Derived.Test.YtpmmjaceehlpiaaGreatDoorR13
namespace Go.Proofs.YtpmmjaceehlpiaaGreatDoor
open Go Go.RowKit

theorem upTo_take {o : List Int} {k : Nat} (h : k < o.length) (ha : o.take k = upTo k) (he : o[k] = (k : Int)) : o.take (k + 1) = upTo (k + 1) := by
  rw [take_next o k h, ha, he, upTo_succ]
theorem upTo_ne {o : List Int} {n k : Nat} (h : k < o.length) (he : o[k] ≠ (k : Int)) : ¬ o = upTo n := fun e => by
  subst e
  exact he (upTo_at (by rw [upTo_length] at h; exact h) h)

set_option maxRecDepth 100000 in
set_option maxHeartbeats 1600000 in
theorem specIsHeap (n : Int) (a b : Option Addr) (ca cb : Nat) (vs zs : List Int) (w : World) (hv : vs.length ≤ maxLen) (hz : zs.length ≤ maxLen) (h : HeapAt w a b vs zs) :
    Calls Tryz.prog 21 #[.int .i64 n, heV a vs.length ca b zs.length cb] w (GaveX (.bool (heapB n vs zs)) w) := by
  have hv' := hv
  have hz' := hz
  unfold maxLen at hv' hz'
  have hat : ∀ W, Below w.heap.size w W → HeapAt W a b vs zs := fun W hb => h.below hb (Nat.le_refl _)
  have HAT := Lib.hid hat
  clear hat h
  have hb00 : ∀ t, Below w.heap.size w (w.alloc (.cells #[.slice a vs.length ca, .slice b zs.length cb] t)) := fun t => (Below.refl _ _).alloc (Nat.le_refl _) _
  by_cases h1 : 1 ≤ n ∧ n ≤ 4
  · have hq : (decide (1 ≤ n) && decide (n ≤ 4)) = true := by simp [h1]
    by_cases h3 : (vs.length : Int) = n
    · subst h3
      by_cases h4 : 6 < zs.length
      · have hf := Lib.hid (heapB_no (n := (vs.length : Int)) (vs := vs) (zs := zs) (by omega))
        have q4 : decide ((6 : Int) < (zs.length : Int)) = true := decide_eq_true (by omega)
        go_enter Tryz.func21, Tryz.ntmps21
        go_wp2_with fail
        refine (specIn (vs.length : Int) 1 4 _).mono ?_
        rw [hq]
        rintro e w1 ⟨rfl, rfl⟩
        go_wp2
        go_ret
        rw [hf.out]
        exact ⟨rfl, hb00 _⟩
      · have q4 : decide ((6 : Int) < (zs.length : Int)) = false := decide_eq_false (by omega)
        have hok : 1 ≤ (vs.length : Int) ∧ (vs.length : Int) ≤ 4 ∧ (vs.length : Int) = (vs.length : Int) ∧ zs.length ≤ 6 := ⟨h1.1, h1.2, rfl, by omega⟩
        have HOK := Lib.hid hok
        have hl1 : vs.length ≤ 1048576 := by omega
        have hl2 : zs.length ≤ 1048576 := by omega
        clear hok
        go_enter Tryz.func21, Tryz.ntmps21
        go_wp2_with fail
        obtain ⟨W0, hW0, hb0, hs0, hA0⟩ := one_box2 w (.slice a vs.length ca) (.slice b zs.length cb) 30
        rw [hW0]
        clear hW0
        have hS : ∀ W, Below W0.heap.size W0 W → Box2 W w.heap.size (.slice a vs.length ca) (.slice b zs.length cb) ∧ Below w.heap.size w W := fun W hb => ⟨hA0.keep hs0 hb, hb0.trans (hb.mono hb0.size)⟩
        obtain ⟨c0, c1⟩ := hA0
        refine (specIn (vs.length : Int) 1 4 _).mono ?_
        rw [hq]
        rintro e w1 ⟨rfl, rfl⟩
        go_wp2_with fail
        refine (specCells a b ca cb vs zs _ hv hz (HAT.out _ hb0)).mono ?_
        rintro e w2 ⟨rfl, hb2⟩
        clear c0 c1
        obtain ⟨⟨c0, c1⟩, hB2⟩ := hS _ hb2
        cases hg : goodH vs zs with
        | false =>
          have hf := Lib.hid (heapB_bad (n := (vs.length : Int)) hg)
          go_wp2
          go_ret
          rw [hf.out]
          exact ⟨rfl, hB2⟩
        | true =>
          have hgz := (goodH_parts hg).2
          go_wp2_with fail
          refine (specAcyclic a b ca cb vs zs _ hl2 (HAT.out _ hB2) hgz).mono ?_
          rintro e w3 ⟨rfl, hb3⟩
          have hb3 := hb2.trans (hb3.mono hb2.size)
          clear c0 c1
          obtain ⟨⟨c0, c1⟩, hB3⟩ := hS _ hb3
          cases hac : acyc zs with
          | false =>
            have hf := Lib.hid (heapB_ring (n := (vs.length : Int)) (vs := vs) hac)
            go_wp2
            go_ret
            rw [hf.out]
            exact ⟨rfl, hB3⟩
          | true =>
            have hok := HOK.out
            have hf := Lib.hid (heapB_yes (n := (vs.length : Int)) ⟨h1.1, h1.2, rfl, by omega⟩ hg hac)
            have ho : orderS zs [] vs = order vs zs := orderS_good hgz
            have hol := (order_end vs zs).len
            go_wp2_with fail
            refine (specOrder a b ca cb vs zs _ hl1 hl2 (HAT.out _ hB3)).mono ?_
            rw [ho]
            rintro e w4 ⟨oa, oc, rfl, hoc, hor, hb4⟩
            rw [intVals_length] at *
            have hR := Row.owned hor
            have hb4' := hb3.trans (hb4.mono hb3.size)
            clear c0 c1 hok hor
            obtain ⟨⟨c0, c1⟩, hB4⟩ := hS _ hb4'
            clear hb2 hb3 hb4 hb4' hS hB2 hB3 q4 h4 hq h1 ho
            generalize hO : order vs zs = O at *
            go_wp2
            go_loop [6] (fun i => ∃ k : Nat, k ≤ O.length ∧ i = .int .i64 k ∧ O.take k = upTo k) (fun i => O.length - (intOf i).toNat)
            case atStart => exact ⟨0, Nat.zero_le _, rfl, rfl⟩
            case round =>
              obtain ⟨k, hk, rfl, hall⟩ := hrel
              have Hall := Lib.hid hall
              clear hall
              by_cases hlt : k < O.length
              · obtain ⟨bo, oo, rfl, hbo, hco⟩ := hR k _ (intVals_at O k hlt)
                by_cases he : O[k] = (k : Int)
                · have heb : (O[k] != (k : Int)) = false := by simpa using he
                  have Hn := Lib.hid (upTo_take hlt Hall.out he)
                  clear he
                  go_wp2
                  go_round
                  case rel => exact ⟨k + 1, by omega, by go_num, Hn.out⟩
                  case measure => simp [intOf]; omega
                · have heb : (O[k] != (k : Int)) = true := by simpa using he
                  have Hn := Lib.hid (upTo_ne (n := zs.length) hlt he)
                  clear he
                  go_wp2
                  go_ret
                  exact ⟨by rw [hf.out, decide_eq_false Hn.out]; rfl, hB4⟩
              · have hk' : k = O.length := by omega
                have hO2 : O = upTo O.length := by have := Hall.out; rw [hk', List.take_length] at this; exact this
                have hlen : decide (O = upTo zs.length) = ((O.length : Int) == (zs.length : Int)) := by
                  by_cases e : O.length = zs.length
                  · rw [e] at hO2
                    rw [decide_eq_true hO2]
                    simp [e]
                  · have : ¬ O = upTo zs.length := fun e' => e (by rw [e', upTo_length])
                    rw [decide_eq_false this]
                    symm
                    simp
                    omega
                have Hl := Lib.hid hlen
                clear hO2 hk' hlen Hall
                go_wp2
                go_ret
                exact ⟨by rw [hf.out, Hl.out]; rfl, hB4⟩
    · have h3b : ((vs.length : Int) != n) = true := by simpa using h3
      have hf := Lib.hid (heapB_no (n := n) (vs := vs) (zs := zs) (by omega))
      go_enter Tryz.func21, Tryz.ntmps21
      go_wp2_with fail
      refine (specIn n 1 4 _).mono ?_
      rw [hq]
      rintro e w1 ⟨rfl, rfl⟩
      go_wp2
      go_ret
      rw [hf.out]
      exact ⟨rfl, hb00 _⟩
  · have hq : (decide (1 ≤ n) && decide (n ≤ 4)) = false := by simp; omega
    have hf := Lib.hid (heapB_no (n := n) (vs := vs) (zs := zs) (by omega))
    go_enter Tryz.func21, Tryz.ntmps21
    go_wp2_with fail
    refine (specIn n 1 4 _).mono ?_
    rw [hq]
    rintro e w1 ⟨rfl, rfl⟩
    go_wp2
    go_ret
    rw [hf.out]
    exact ⟨rfl, hb00 _⟩
end Go.Proofs.YtpmmjaceehlpiaaGreatDoor
