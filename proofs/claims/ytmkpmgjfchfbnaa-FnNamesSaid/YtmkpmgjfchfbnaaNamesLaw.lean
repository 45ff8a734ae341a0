/-
  Proved: for every list of bytes the law FnNames returns true and leaves its argument as it was. No condition beyond the given row's own.
-/
import Derived.Test.YtmkpmgjfchfbnaaDrawNames
import Derived.Test.YtmkpmgjfchfbnaaSameInts
import Derived.Test.YtmkpmgjfchfbnaaImplNames
import Derived.Test.YtmkpmgjfchfbnaaRows
import Derived.ChangeMaps5
import Derived.LaidLaws
namespace Go.Proofs.Ytmkpmgjfchfbnaa.names
open Go Go.RowKit Go.ChangeShapes Go.WideShapes Go.ChangeAt

/-- The law said true, and nothing old has turned. -/
def TrueEnd (w : World) (e : Ending) (w' : World) : Prop := e = .returned (.bool true) ∧ Below w.heap.size w w'

/-- What the second loop reads of the positions: each lies in the list, holds the number there, and is greater than the one before it. -/
theorem at_pos {ns : List Int} {n : Int} {k : Nat} (h : k < (posFrom n 0 ns).length) : ∃ q : Nat, (posFrom n 0 ns)[k] = (q : Int) ∧ ∃ hq : q < ns.length, ns[q] = n := by
  obtain ⟨j, e, hj, hn⟩ := posFrom_mem n ns 0 _ (List.getElem_mem h)
  exact ⟨j, by rw [e]; simp, hj, hn⟩
theorem at_lt {ns : List Int} {n : Int} {k : Nat} (h : k + 1 < (posFrom n 0 ns).length) : (posFrom n 0 ns)[k] < (posFrom n 0 ns)[k + 1] :=
  List.pairwise_iff_getElem.1 (posFrom_lt n ns 0) k (k + 1) (by omega) h (by omega)

set_option maxRecDepth 100000 in
set_option maxHeartbeats 4000000 in
theorem walk (a : Option Addr) (n cap : Nat) (w : World) (hn : n ≤ maxLen) (hcode : Code8 w w.heap.size n a) : Calls Try.prog 3 #[.slice a n cap] w (TrueEnd w) := by
  by_cases hbig : 1048576 < n
  · go_enter Try.func3, Try.ntmps3
    go_wp2_with fail
    refine (bigYes a n cap _ hn hbig).mono ?_
    rintro e w1 ⟨rfl, rfl⟩
    go_wp2
    go_ret
    exact ⟨rfl, Below.refl _ _⟩
  · go_enter Try.func3, Try.ntmps3
    go_wp2_with fail
    refine (bigNo a n cap _ (by omega)).mono ?_
    rintro e w1 ⟨rfl, rfl⟩
    go_wp2_with fail
    refine (drawAreVars a n cap _ (by omega) hcode).mono ?_
    rintro e w1 ⟨a1, cap1, ss, rfl, hl1, hs1, ho1, hb1⟩
    have hr1 : Row w1 w1.heap.size a1 (strVals ss) := Row.owned ho1
    have hcode1 : Code8 w1 w1.heap.size n a := (hcode.keeps fun p hp => hb1.cell hp).grow hb1.size
    clear ho1
    go_wp2_with fail
    refine (drawPositions a n cap _ (by omega) hcode1).mono ?_
    rintro e w2 ⟨a2, cap2, ns, x, rfl, hl2, hr2, hb12⟩
    have hb2 : Below w.heap.size w w2 := hb1.trans (hb12.mono hb1.size)
    have hr12 := (hr1.below hb12).grow hb12.size
    have hcode2 : Code8 w2 w2.heap.size n a := (hcode.keeps fun p hp => hb2.cell hp).grow hb2.size
    clear hr1 hb12 hb1 hcode1
    have hpl := posFrom_length x ns 0
    go_wp2_with fail
    refine (implPositions _ _ ns x _ (by omega) hr2).mono ?_
    rintro e w3 ⟨a3, cap3, rfl, hcap3, ho3, hb23⟩
    have hr3 : Row w3 w3.heap.size a3 (intVals (posFrom x 0 ns)) := Row.owned ho3
    have hb3 : Below w.heap.size w w3 := hb2.trans (hb23.mono hb2.size)
    have hr13 := (hr12.below hb23).grow hb23.size
    have hr23 := (hr2.below hb23).grow hb23.size
    have hcode3 : Code8 w3 w3.heap.size n a := (hcode.keeps fun p hp => hb3.cell hp).grow hb3.size
    clear hr12 hr2 hb23 hb2 hcode2 ho3
    go_wp2_with fail
    refine (drawIsName a n cap _ (by omega) hcode3).mono ?_
    rintro e w4 ⟨s, hs, rfl, hb34⟩
    have hb4 : Below w.heap.size w w4 := hb3.trans (hb34.mono hb3.size)
    have hr14 := (hr13.below hb34).grow hb34.size
    have hr24 := (hr23.below hb34).grow hb34.size
    have hr34 := (hr3.below hb34).grow hb34.size
    have hcode4 : Code8 w4 w4.heap.size n a := (hcode.keeps fun p hp => hb4.cell hp).grow hb4.size
    clear hr13 hr23 hr3 hb34 hb3 hcode3
    go_wp2_with fail
    refine (drawIndexOf a n cap _ (by omega) hcode4).mono ?_
    rintro e w5 ⟨a5, cap5, xs, y, rfl, hl5, hsy, hs5, hr5, hb45⟩
    have hb5 : Below w.heap.size w w5 := hb4.trans (hb45.mono hb4.size)
    have hr1 := (hr14.below hb45).grow hb45.size
    have hr2 := (hr24.below hb45).grow hb45.size
    have hr3 := (hr34.below hb45).grow hb45.size
    have hws1 : ∀ s ∈ ss, s.size ≤ maxLen := fun s h => by have := hs1 s h; unfold maxLen; omega
    have hsm : s.size ≤ maxLen := by unfold maxLen; omega
    have hlm1 : ss.length ≤ maxLen := by unfold maxLen; omega
    have hlm5 : xs.length ≤ maxLen := by unfold maxLen; omega
    clear hr14 hr24 hr34 hb45 hb4 hcode4 hcode
    generalize hps : posFrom x 0 ns = ps at *
    have hat : ∀ k (h : k < ps.length), ∃ q : Nat, ps[k] = (q : Int) ∧ ∃ hq : q < ns.length, ns[q] = x := by
      subst hps
      exact fun k h => at_pos h
    have hinc : ∀ k (h : k + 1 < ps.length), ps[k] < ps[k + 1] := by
      subst hps
      exact fun k h => at_lt h
    have Hat := Lib.hid hat
    have Hinc := Lib.hid hinc
    clear hat hinc
    rw [intVals_length] at *
    go_wp2_with fail
    refine (implAreVars _ _ ss _ hlm1 hws1 hr1).mono ?_
    rintro e w6 ⟨rfl, hb56⟩
    go_wp2_with fail
    refine (specAreVars _ _ ss _ hlm1 hws1 ((hr1.below hb56).grow hb56.size)).mono ?_
    rintro e w7 ⟨rfl, rfl⟩
    have hb57 := hb56
    clear hb56
    generalize hgv : goodVars ss = gv at *
    have Hgv := Lib.hid hgv
    have Hps := Lib.hid hps
    clear hgv
    go_wp2_with fail
    refine (specPositions _ _ ns x _ (by omega) ((hr2.below hb57).grow hb57.size)).mono ?_
    rw [hps]
    clear hps
    rintro e w8 ⟨a8, cap8, rfl, hcap8, ho8, hb78⟩
    rw [intVals_length] at *
    have hb58 := hb57.trans (hb78.mono hb57.size)
    clear hb57 hb78
    go_wp2_with fail
    refine (sameInts _ _ _ _ ps _ (by unfold maxLen; omega) ((hr3.below hb58).grow hb58.size) (Row.owned ho8)).mono ?_
    rintro e w9 ⟨d1, rfl, rfl⟩
    have hb59 := below_draws hb58 d1
    clear hb58 ho8
    go_wp2_with fail
    refine (implIsName s _ hsm).mono ?_
    rintro e w10 ⟨rfl, hb910⟩
    have hb10 := hb59.trans (hb910.mono hb59.size)
    clear hb59 hb910
    go_wp2_with fail
    refine (specIsName s _ hsm).mono ?_
    rintro e w11 ⟨rfl, rfl⟩
    generalize goodName s = gn at *
    go_wp2_with fail
    refine (implIndexOf _ _ xs y _ hlm5 ((hr5.below hb10).grow hb10.size)).mono ?_
    rintro e w11 ⟨rfl, rfl⟩
    go_wp2_with fail
    refine (specIndexOf _ _ xs y _ hlm5 ((hr5.below hb10).grow hb10.size)).mono ?_
    rintro e w11 ⟨rfl, rfl⟩
    generalize place xs y = pl at *
    go_wp2
    go_loopw [10] (fun i wr => ∃ k : Nat, k ≤ ss.length ∧ i = .int .i64 k ∧ Below w5.heap.size w5 wr) (fun i _ => ss.length - (intOf i).toNat)
    case atStart => exact ⟨0, Nat.zero_le _, rfl, hb10⟩
    case round =>
      obtain ⟨k, hk, rfl, hb⟩ := hrel
      by_cases hlt : k < ss.length
      · go_wp2_with fail
        refine (implAreVars _ _ ss _ hlm1 hws1 ((hr1.below hb).grow hb.size)).mono ?_
        rw [Hgv.out]
        rintro e w12 ⟨rfl, hb12⟩
        have hb' := hb.trans (hb12.mono hb.size)
        clear hb12
        cases gv with
        | true =>
          have hv := vars_at Hgv.out hlt
          obtain ⟨b, o, rfl, hbW, hc0⟩ := hr1 k (.string ss[k]) (by simp [strVals, hlt])
          have hc : w12.cell? ⟨b, o + k, none⟩ = some (.string ss[k]) := (hb'.cell (p := ⟨b, o + k, none⟩) hbW).trans hc0
          have hsz := hws1 ss[k] (List.getElem_mem hlt)
          have Hv := Lib.hid hv
          clear hc0 hv
          go_wp2_with fail
          refine (implIndexOf _ _ ss ss[k] _ hlm1 ((hr1.below hb').grow hb'.size)).mono ?_
          rw [Hv.out.2]
          rintro e w13 ⟨rfl, rfl⟩
          go_wp2_with fail
          refine (implIsName ss[k] _ hsz).mono ?_
          rw [Hv.out.1]
          rintro e w13 ⟨rfl, hb13⟩
          have hb'' := hb'.trans (hb13.mono hb'.size)
          clear hb13
          go_wp2
          go_roundw
          case rel => exact ⟨k + 1, by omega, by go_num, hb''⟩
          case measure => simp [intOf]; omega
        | false =>
          go_wp2
          go_loopw [11] (fun i wr => ∃ k : Nat, k ≤ ps.length ∧ i = .int .i64 k ∧ Below w5.heap.size w5 wr) (fun i _ => ps.length - (intOf i).toNat)
          case atStart => exact ⟨0, Nat.zero_le _, rfl, hb'⟩
          case round =>
            obtain ⟨k, hk, rfl, hb⟩ := hrel
            by_cases hlt2 : k < ps.length
            · obtain ⟨q, hq, hql, hqn⟩ := Hat.out k hlt2
              obtain ⟨b3, o3, rfl, hb3, hc3⟩ := hr3 k (.int .i64 (q : Int)) (by rw [intVals_at ps k hlt2, hq])
              obtain ⟨b2, o2, rfl, hb2, hc2⟩ := hr2 q (.int .i64 x) (by rw [intVals_at ns q hql, hqn])
              have hc3' : wr.cell? ⟨b3, o3 + k, none⟩ = some (.int .i64 (q : Int)) := (hb.cell (p := ⟨b3, o3 + k, none⟩) hb3).trans hc3
              have hc2' : wr.cell? ⟨b2, o2 + q, none⟩ = some (.int .i64 x) := (hb.cell (p := ⟨b2, o2 + q, none⟩) hb2).trans hc2
              have hd1 : decide ((q : Int) < 0) = false := decide_eq_false (by omega)
              have hd2 : decide (ns.length ≤ q) = false := decide_eq_false (by omega)
              have Hq := Lib.hid hq
              clear hc3 hc2 hq hqn
              by_cases hpos : 0 < k
              · obtain ⟨p, hp, _, _⟩ := Hat.out (k - 1) (by omega)
                have hpq : p < q := by
                  have h1 := Hinc.out (k - 1) (by omega)
                  have h2 : k - 1 + 1 = k := by omega
                  simp only [h2] at h1
                  rw [hp, Hq.out] at h1
                  omega
                obtain ⟨b4, o4, e4, hb4, hc4⟩ := hr3 (k - 1) (.int .i64 (p : Int)) (by rw [intVals_at ps (k - 1) (by omega), hp])
                obtain ⟨rfl, rfl⟩ : b4 = b3 ∧ o4 = o3 := by
                  injection e4 with e4
                  injection e4 with h1 h2
                  exact ⟨h1.symm, h2.symm⟩
                have hc4' : wr.cell? ⟨b4, o4 + (k - 1), none⟩ = some (.int .i64 (p : Int)) := (hb.cell (p := ⟨b4, o4 + (k - 1), none⟩) hb4).trans hc4
                have hd3 : decide (0 < k) = true := decide_eq_true (by omega)
                have hd4 : decide (q ≤ p) = false := decide_eq_false (by omega)
                clear hc4 hp
                go_wp2
                go_quiet (fail)
                go_wp2
                go_roundw
                case rel => exact ⟨k + 1, by omega, by go_num, below_draws hb _⟩
                case measure => simp [intOf]; omega
              · obtain rfl : k = 0 := by omega
                simp only [Nat.add_zero] at hc3'
                go_wp2
                go_quiet (fail)
                go_wp2
                go_roundw
                case rel => exact ⟨1, by omega, by go_num, below_draws hb _⟩
                case measure => simp [intOf]; omega
            · go_wp2
              go_ret
              exact ⟨rfl, hb5.trans (hb.mono hb5.size)⟩
      · go_wp2
        go_loopw [11] (fun i wr => ∃ k : Nat, k ≤ ps.length ∧ i = .int .i64 k ∧ Below w5.heap.size w5 wr) (fun i _ => ps.length - (intOf i).toNat)
        case atStart => exact ⟨0, Nat.zero_le _, rfl, hb⟩
        case round =>
          obtain ⟨k, hk, rfl, hb⟩ := hrel
          by_cases hlt2 : k < ps.length
          · obtain ⟨q, hq, hql, hqn⟩ := Hat.out k hlt2
            obtain ⟨b3, o3, rfl, hb3, hc3⟩ := hr3 k (.int .i64 (q : Int)) (by rw [intVals_at ps k hlt2, hq])
            obtain ⟨b2, o2, rfl, hb2, hc2⟩ := hr2 q (.int .i64 x) (by rw [intVals_at ns q hql, hqn])
            have hc3' : wr.cell? ⟨b3, o3 + k, none⟩ = some (.int .i64 (q : Int)) := (hb.cell (p := ⟨b3, o3 + k, none⟩) hb3).trans hc3
            have hc2' : wr.cell? ⟨b2, o2 + q, none⟩ = some (.int .i64 x) := (hb.cell (p := ⟨b2, o2 + q, none⟩) hb2).trans hc2
            have hd1 : decide ((q : Int) < 0) = false := decide_eq_false (by omega)
            have hd2 : decide (ns.length ≤ q) = false := decide_eq_false (by omega)
            have Hq := Lib.hid hq
            clear hc3 hc2 hq hqn
            by_cases hpos : 0 < k
            · obtain ⟨p, hp, _, _⟩ := Hat.out (k - 1) (by omega)
              have hpq : p < q := by
                have h1 := Hinc.out (k - 1) (by omega)
                have h2 : k - 1 + 1 = k := by omega
                simp only [h2] at h1
                rw [hp, Hq.out] at h1
                omega
              obtain ⟨b4, o4, e4, hb4, hc4⟩ := hr3 (k - 1) (.int .i64 (p : Int)) (by rw [intVals_at ps (k - 1) (by omega), hp])
              obtain ⟨rfl, rfl⟩ : b4 = b3 ∧ o4 = o3 := by
                injection e4 with e4
                injection e4 with h1 h2
                exact ⟨h1.symm, h2.symm⟩
              have hc4' : wr.cell? ⟨b4, o4 + (k - 1), none⟩ = some (.int .i64 (p : Int)) := (hb.cell (p := ⟨b4, o4 + (k - 1), none⟩) hb4).trans hc4
              have hd3 : decide (0 < k) = true := decide_eq_true (by omega)
              have hd4 : decide (q ≤ p) = false := decide_eq_false (by omega)
              clear hc4 hp
              go_wp2
              go_quiet (fail)
              go_wp2
              go_roundw
              case rel => exact ⟨k + 1, by omega, by go_num, below_draws hb _⟩
              case measure => simp [intOf]; omega
            · obtain rfl : k = 0 := by omega
              simp only [Nat.add_zero] at hc3'
              go_wp2
              go_quiet (fail)
              go_wp2
              go_roundw
              case rel => exact ⟨1, by omega, by go_num, below_draws hb _⟩
              case measure => simp [intOf]; omega
          · go_wp2
            go_ret
            exact ⟨rfl, hb5.trans (hb.mono hb5.size)⟩

theorem own : ownKnob Try.prog.godebug = none := by kernel_rfl
theorem laidOut : laidOutB Try.prog = true := by kernel_rfl
theorem cellsByte : Try.prog.cellsOf 5 = 1 := by kernel_rfl
set_option maxRecDepth 100000 in
theorem contract (H : Type) (enc : TypeId × Value → H) (W : World) (base : Nat) (args : Array Value) (ds gs : List (DataW H)) (before : List MemPlace)
    (hval : ∀ (j : Nat) t v, Try.f3.params[j]? = some t → args[j]? = some v → Value.okWide Try.prog W .any base t v)
    (hW : DataW.Whole enc Try.prog Try.f3.params.toList Rows.fnNamesSpec.vars false W args.toList ds gs before)
    (_hL : laidMetH Try.prog Rows.fnNamesRow.laid W) (_hSh : W.ShapedOpen Try.prog) :
    Calls Try.prog 3 args W fun e W' => ∃ v, e = .returned v ∧ Rows.fnNamesSpec.post enc Try.prog Try.f3 false true false false W args v W' := by
  have hW' := hW
  have hlt : ∀ x ∈ before, x.block < W.heap.size := fun x hx => hW'.lt x hx
  obtain ⟨p, q, hA0, hV, rfl, _, _⟩ := hW
  have hA : DataW.TrodAll enc Try.prog W 0 (fun _ => true) true Try.f3.params.toList args.toList ds p := hA0
  rw [Try.params3] at hA hval
  obtain ⟨v0, d0, rfl, rfl, t0⟩ := trodAll_one hA
  obtain ⟨a0, n0, cap0, rfl, _, hn0, hcode0⟩ := open_codes Try.underlying22 Try.underlying5 cellsByte (fun x hx => hlt x (by simp [hx])) (base := base) (hval 0 22 v0 rfl rfl) t0
  refine (walk a0 n0 cap0 W hn0 hcode0).mono fun e W' ⟨he, hb⟩ => ?_
  subst he
  exact ⟨_, rfl, law_post laidOut rfl (by kernel_rfl) (by kernel_rfl) Try.underlying4 hW' rfl hb⟩

/-- A world for the witness. -/
noncomputable def start (os : Os) : World := World.holding Try.prog os ⟨#[], #[], []⟩
theorem laid_met (os : Os) : laidMet Try.prog Rows.fnNamesRow.laid ((start os).forCall (fun _ _ => 0) ⟨#[], #[.slice none 0 0], []⟩).memory :=
  laidMet_of_run' 8 (by kernel_rfl) (by kernel_rfl)
theorem reads (os : Os) {H : Type} (enc : TypeId × Value → H) : ∃ places, DataW.whole enc Try.prog ((start os).forCall (fun _ _ => 0) ⟨#[], #[.slice none 0 0], []⟩).memory Try.f3.params.toList Rows.fnNamesSpec.vars false #[Value.slice none 0 0].toList 8 = some ([.nil], [], places) :=
  ⟨[], by kernel_rfl⟩

set_option maxRecDepth 100000 in
theorem lifted (os : Os) (started : os.Started) (H : Type) (enc : TypeId × Value → H) (F : Stop.Interp) :
    ReturnsInHanded {} Try.checked os 3 .any ((OpenSpec.ofChange Rows.fnNamesSpec).preRow enc Try.prog Try.f3 Rows.fnNamesRow.domain false Rows.fnNamesRow.laid) (((OpenSpec.ofChange Rows.fnNamesSpec).at F).post enc Try.prog Try.f3 false true false false) := by
  obtain ⟨places, hx⟩ := reads os enc
  refine returnsInHanded_of_row (C := Try.checked) (s := OpenSpec.ofChange Rows.fnNamesSpec) own started (by kernel_rfl) Try.func3
    (witness_row_at (enc := enc) (C := Try.checked) false (start os) #[.slice none 0 0] rfl (by kernel_rfl) (by kernel_rfl) (by kernel_rfl)
      (OpenSpec.preRow_of_cond 8 hx (by kernel_rfl) (fun k hk => by cases hk) (by kernel_rfl) (laid_met os))) ?_
  intro W base args ds gs before hval hW _ _ _ hL hSh _
  exact contract H enc W base args ds gs before hval hW hL hSh

theorem said : Rows.FnNamesSaid :=
  OpenClaim.holds_of_cond 3 Try.f3 rfl rfl rfl rfl rfl rfl rfl ⟨rfl, rfl, rfl, rfl, rfl⟩ rfl rfl rfl rfl rfl (by kernel_rfl) Try.func3 (by kernel_rfl)
    (of_decide_eq_true (by kernel_rfl)) (by unfold Func.isWrapper; first | (rw [if_pos (by decide +kernel)]; kernel_rfl) | (rw [if_neg (by decide +kernel)]; exact ⟨rfl, rfl⟩))
    (fun os started H enc _ F => by rw [OpenClaim.pre_eq_preRow]; exact lifted os started H enc F)
#print axioms said
end Go.Proofs.Ytmkpmgjfchfbnaa.names
