/-
  Proved: for every two states the law FnExactEqualState returns true and leaves its arguments as they were. No condition beyond the given row's own.
-/
import Derived.Test.YtpmmjaceehlpiaaImplState
import Derived.Test.YtpmmjaceehlpiaaToState
import Derived.Test.YtpmmjaceehlpiaaOpenHeaps
import Derived.Test.YtpmmjaceehlpiaaRows
import Derived.ChangeMaps5
import Derived.LaidLaws
import Derived.Deep.RegionHeld3
namespace Go.Proofs.Ytpmmjaceehlpiaa.exactEqualState
open Go Go.RowKit Go.ChangeShapes Go.WideShapes Go.ChangeAt

/-- The law said true, and nothing old has turned. -/
def TrueEnd (w : World) (e : Ending) (w' : World) : Prop := e = .returned (.bool true) ∧ Below w.heap.size w w'

abbrev Box3 (W : World) (g : Nat) (x y z : Value) : Prop := W.cell? ⟨g, 0, none⟩ = some x ∧ W.cell? ⟨g, 1, none⟩ = some y ∧ W.cell? ⟨g, 2, none⟩ = some z
theorem three {W : World} {g : Nat} {x y z : Value} (h : BoxL W g [x, y, z]) : Box3 W g x y z := ⟨h.c 0 _ rfl, h.c 1 _ rfl, h.c 2 _ rfl⟩
set_option maxRecDepth 100000 in
set_option maxHeartbeats 3200000 in
theorem walk_ (p : Int) (a : Option Addr) (ca : Nat) (vs : List Int) (b : Option Addr) (cb : Nat) (zs : List Int) (q : Int) (c : Option Addr) (cc : Nat) (us : List Int) (d : Option Addr) (cd : Nat) (ys : List Int) (w : World) (hok : HeapOk w a b vs zs) (hpk : HeapOk w c d us ys) :
    Calls Try.prog 4 #[spC p a vs.length ca b zs.length cb, spC q c us.length cc d ys.length cd] w (TrueEnd w) := by
  have hat : ∀ W, Below w.heap.size w W → HeapAt W a b vs zs ∧ HeapAt W c d us ys := fun W h => ⟨hok.at_.below h (Nat.le_refl _), hpk.at_.below h (Nat.le_refl _)⟩
  have HAT := Lib.hid hat
  clear hat
  go_enter Try.func4, Try.ntmps4
  go_wp2_with fail
  obtain ⟨W0, hW0, hb0, hA0, hC0⟩ := two_boxL w [.int .i64 p, .slice a vs.length ca, .slice b zs.length cb] [.int .i64 q, .slice c us.length cc, .slice d ys.length cd] 31 31
  simp only [List.toArray] at hW0
  rw [hW0]
  clear hW0
  have hARG : ∀ W, Below W0.heap.size W0 W → (Box3 W w.heap.size (.int .i64 p) (.slice a vs.length ca) (.slice b zs.length cb) ∧ Box3 W (w.heap.size + 1) (.int .i64 q) (.slice c us.length cc) (.slice d ys.length cd)) ∧ Below w.heap.size w W := fun W hb => ⟨⟨three (hA0.below hb), three (hC0.below hb)⟩, hb0.trans (hb.mono hb0.size)⟩
  have ARG := Lib.hid hARG
  have hs0 := hC0.lt
  clear hARG hA0 hC0
  refine (szState p a b ca cb vs.length zs.length 1048576 _ (by omega) hok.lv hok.lz).mono ?_
  rintro e w1 ⟨r, rfl, hb1, hr, hsz⟩
  obtain ⟨⟨⟨c0, c1, c2⟩, ⟨c3, c4, c5⟩⟩, hB1⟩ := ARG.out _ hb1
  by_cases hneg : r < 0
  · go_wp2
    go_ret
    exact ⟨rfl, hB1⟩
  · obtain ⟨m, rfl⟩ : ∃ m : Nat, r = (m : Int) := ⟨r.toNat, by omega⟩
    have hnat : vs.length + zs.length + m = 1048576 := by have := hsz (by omega); omega
    clear hsz hneg hr
    go_wp2_with fail
    refine (szState q c d cc cd us.length ys.length m _ (by omega) hpk.lv hpk.lz).mono ?_
    rintro e w2 ⟨r, rfl, hb2, hr, hsz⟩
    have hb2 := hb1.trans (hb2.mono hb1.size)
    clear c0 c1 c2 c3 c4 c5 hB1 hb1
    obtain ⟨⟨⟨c0, c1, c2⟩, ⟨c3, c4, c5⟩⟩, hB2⟩ := ARG.out _ hb2
    by_cases hneg : r < 0
    · go_wp2
      go_ret
      exact ⟨rfl, hB2⟩
    · have hnat2 : us.length + ys.length ≤ 1048576 := by have := hsz (by omega); omega
      clear hsz
      have hD0 : Below W0.heap.size W0 w2.drew := hb2.drew
      clear c0 c1 c2 c3 c4 c5
      go_wp2
      go_region_held3 (fun W => (W.cell? ⟨w.heap.size, 0, none⟩ = some (.int .i64 p) ∧ W.cell? ⟨w.heap.size, 1, none⟩ = some (.slice a vs.length ca) ∧ W.cell? ⟨w.heap.size, 2, none⟩ = some (.slice b zs.length cb)) ∧ (W.cell? ⟨w.heap.size + 1, 0, none⟩ = some (.int .i64 q) ∧ W.cell? ⟨w.heap.size + 1, 1, none⟩ = some (.slice c us.length cc) ∧ W.cell? ⟨w.heap.size + 1, 2, none⟩ = some (.slice d ys.length cd)))
        (first | exact (ARG.out _ hD0).1 | exact (ARG.out _ (Below.drew hD0)).1 | exact (ARG.out _ hb03).1 | exact (ARG.out _ hb04).1 | exact (ARG.out _ hb05).1)
        (first
          | (go_at_call 12; (with_reducible refine (toState p a b ca cb vs zs _ (by omega) (by omega) (HAT.out _ (ARG.out _ hD0).2).1).mono ?_); rintro e w3 ⟨p3, q3, rfl, hin3, hb3⟩; have hb03 := hD0.trans (hb3.mono hD0.size))
          | (go_at_call 12; (with_reducible refine (toState q c d cc cd us ys _ (by omega) (by omega) (HAT.out _ (ARG.out _ hb03).2).2).mono ?_); rintro e w4 ⟨p4, q4, rfl, hin4, hb4⟩; have hin3' := hin3.below hb4; have hb04 := hb03.trans (hb4.mono hb03.size))
          | (go_at_call 11; (with_reducible refine (specEqualState _ _ _ _ _ _ _ _ _ _ vs zs us ys _ hok.lv hok.lz hin3'.rows hin4.rows).mono ?_); rintro e w5 ⟨rfl, hb5⟩; have hb05 := hb04.trans (hb5.mono hb04.size)))
      clear hb03 hb04 hb3 hb4 hb5 hin3 hin3' hin4 hB2 hb2 hD0
      obtain ⟨⟨⟨c0, c1, c2⟩, ⟨c3, c4, c5⟩⟩, hB5⟩ := ARG.out _ hb05
      generalize hres : sameSp p q vs zs us ys = res at *
      have Hres := Lib.hid hres
      clear hres
      go_wp2_with fail
      refine (toState p a b ca cb vs zs _ (by omega) (by omega) (HAT.out _ hB5).1).mono ?_
      rintro e w6 ⟨p6, q6, rfl, hin6, hb6⟩
      have hb06 := hb05.trans (hb6.mono hb05.size)
      clear c0 c1 c2 c3 c4 c5
      obtain ⟨⟨⟨c0, c1, c2⟩, ⟨c3, c4, c5⟩⟩, _⟩ := ARG.out _ hb06
      have hs06 : w.heap.size + 1 < w6.heap.size := Nat.lt_of_lt_of_le hs0 hb06.size
      go_wp2_with fail
      obtain ⟨W7, hW7, hb7, hX7⟩ : ∃ W7, w6.alloc (.cells #[.int .i64 p, .slice p6 vs.length vs.length, .slice q6 zs.length zs.length] 36) = W7 ∧ Below w6.heap.size w6 W7 ∧ BoxL W7 w6.heap.size [.int .i64 p, .slice p6 vs.length vs.length, .slice q6 zs.length zs.length] := ⟨_, rfl, (Below.refl _ _).alloc (Nat.le_refl _) _, BoxL.new w6 _ _⟩
      rw [hW7]
      clear hW7
      have hin7 := hin6.below hb7
      have hb07 := hb06.trans (hb7.mono hb06.size)
      obtain ⟨_, hB7⟩ := ARG.out _ hb07
      refine (toState q c d cc cd us ys _ (by omega) (by omega) (HAT.out _ hB7).2).mono ?_
      rintro e w8 ⟨p8, q8, rfl, hin8, hb8⟩
      have hb08 := hb07.trans (hb8.mono hb07.size)
      have hin78 := hin7.below hb8
      have hX8 := hX7.below hb8
      clear c0 c1 c2 c3 c4 c5 hs06
      have c0 := hX8.c 0 _ rfl
      have c1 := hX8.c 1 _ rfl
      have c2 := hX8.c 2 _ rfl
      have hs8 := hX8.lt
      go_wp2_with fail
      obtain ⟨W9, hW9, hb9, hY9⟩ : ∃ W9, w8.alloc (.cells #[.int .i64 q, .slice p8 us.length us.length, .slice q8 ys.length ys.length] 36) = W9 ∧ Below w8.heap.size w8 W9 ∧ BoxL W9 w8.heap.size [.int .i64 q, .slice p8 us.length us.length, .slice q8 ys.length ys.length] := ⟨_, rfl, (Below.refl _ _).alloc (Nat.le_refl _) _, BoxL.new w8 _ _⟩
      rw [hW9]
      clear hW9
      have hb09 := hb08.trans (hb9.mono hb08.size)
      have hX9 := hX8.below hb9
      have hALL : ∀ W, Below W9.heap.size W9 W → ((Box3 W w6.heap.size (.int .i64 p) (.slice p6 vs.length vs.length) (.slice q6 zs.length zs.length) ∧ Box3 W w.heap.size (.int .i64 p) (.slice a vs.length ca) (.slice b zs.length cb)) ∧ (Box3 W w8.heap.size (.int .i64 q) (.slice p8 us.length us.length) (.slice q8 ys.length ys.length) ∧ Box3 W (w.heap.size + 1) (.int .i64 q) (.slice c us.length cc) (.slice d ys.length cd))) ∧ (HeapAt W p6 q6 vs zs ∧ HeapAt W p8 q8 us ys) ∧ Below w.heap.size w W := fun W hb =>
        have hA := ARG.out _ (hb09.trans (hb.mono hb09.size))
        ⟨⟨⟨three (hX9.below hb), hA.1.1⟩, ⟨three (hY9.below hb), hA.1.2⟩⟩, ⟨((hin78.below hb9).below hb).rows, ((hin8.below hb9).below hb).rows⟩, hA.2⟩
      have ALL := Lib.hid hALL
      clear hALL hin6 hin7 hin8 hin78 hb6 hb7 hb8 hb9 hb05 hb06 hb07 hb08 hb09 hB5 hB7 hX7 hX8 hX9 hY9
      refine (implEqualState p q _ _ _ _ _ _ _ _ vs zs us ys _ hok.lv hok.lz (ALL.out _ (Below.refl _ _)).2.1.1 (ALL.out _ (Below.refl _ _)).2.1.2).mono ?_
      rw [Hres.out]
      rintro e w10 ⟨rfl, hb10⟩
      have hD : Below W9.heap.size W9 w10.drew := hb10.drew
      clear c0 c1 c2
      go_wp2
      go_region_held3 (fun W => (W.cell? ⟨w6.heap.size, 0, none⟩ = some (.int .i64 p) ∧ W.cell? ⟨w6.heap.size, 1, none⟩ = some (.slice p6 vs.length vs.length) ∧ W.cell? ⟨w6.heap.size, 2, none⟩ = some (.slice q6 zs.length zs.length)) ∧ (W.cell? ⟨w.heap.size, 0, none⟩ = some (.int .i64 p) ∧ W.cell? ⟨w.heap.size, 1, none⟩ = some (.slice a vs.length ca) ∧ W.cell? ⟨w.heap.size, 2, none⟩ = some (.slice b zs.length cb)))
        (first | exact (ALL.out _ hD).1.1 | exact (ALL.out _ (Below.drew hD)).1.1 | exact (ALL.out _ H7).1.1 | exact (ALL.out _ H8).1.1)
        (first
          | (go_at_call 12; (with_reducible refine (toState p a b ca cb vs zs _ (by omega) (by omega) (HAT.out _ (ALL.out _ hD).2.2).1).mono ?_); rintro e w17 ⟨p17, q17, rfl, hin17, hb17⟩; have H7 := hD.trans (hb17.mono hD.size))
          | (go_at_call 14; (with_reducible refine (eqStates p _ _ _ _ _ _ _ _ vs zs _ hok.lv hok.lz (ALL.out _ H7).2.1.1 hin17.rows).mono ?_); rintro e w18 ⟨rfl, hb18⟩; have H8 := H7.trans (hb18.mono H7.size)))
      have hD2 : Below W9.heap.size W9 w18.drew := H8.drew
      go_wp2
      go_region_held3 (fun W => (W.cell? ⟨w8.heap.size, 0, none⟩ = some (.int .i64 q) ∧ W.cell? ⟨w8.heap.size, 1, none⟩ = some (.slice p8 us.length us.length) ∧ W.cell? ⟨w8.heap.size, 2, none⟩ = some (.slice q8 ys.length ys.length)) ∧ (W.cell? ⟨w.heap.size + 1, 0, none⟩ = some (.int .i64 q) ∧ W.cell? ⟨w.heap.size + 1, 1, none⟩ = some (.slice c us.length cc) ∧ W.cell? ⟨w.heap.size + 1, 2, none⟩ = some (.slice d ys.length cd)))
        (first | exact (ALL.out _ hD2).1.2 | exact (ALL.out _ (Below.drew hD2)).1.2 | exact (ALL.out _ H9).1.2 | exact (ALL.out _ H10).1.2)
        (first
          | (go_at_call 12; (with_reducible refine (toState q c d cc cd us ys _ (by omega) (by omega) (HAT.out _ (ALL.out _ hD2).2.2).2).mono ?_); rintro e w19 ⟨p19, q19, rfl, hin19, hb19⟩; have H9 := hD2.trans (hb19.mono hD2.size))
          | (go_at_call 14; (with_reducible refine (eqStates q _ _ _ _ _ _ _ _ us ys _ hpk.lv hpk.lz (ALL.out _ H9).2.1.2 hin19.rows).mono ?_); rintro e w20 ⟨rfl, hb20⟩; have H10 := H9.trans (hb20.mono H9.size)))
      go_wp2
      go_ret
      exact ⟨rfl, (ALL.out _ H10).2.2⟩
theorem walk (x y : Sp) (w : World) (_ : -9223372036854775808 ≤ x.p) (_ : x.p ≤ 9223372036854775807) (hok : x.h.Ok w) (_ : -9223372036854775808 ≤ y.p) (_ : y.p ≤ 9223372036854775807) (hpk : y.h.Ok w) :
    Calls Try.prog 4 #[spC x.p x.h.a x.h.vs.length x.h.ca x.h.b x.h.zs.length x.h.cb, spC y.p y.h.a y.h.vs.length y.h.ca y.h.b y.h.zs.length y.h.cb] w (TrueEnd w) :=
  walk_ x.p x.h.a x.h.ca x.h.vs x.h.b x.h.cb x.h.zs y.p y.h.a y.h.ca y.h.vs y.h.b y.h.cb y.h.zs w hok hpk

theorem own : ownKnob Try.prog.godebug = none := by kernel_rfl
theorem laidOut : laidOutB Try.prog = true := by kernel_rfl
set_option maxRecDepth 100000 in
theorem contract (H : Type) (enc : TypeId × Value → H) (W : World) (base : Nat) (args : Array Value) (ds gs : List (DataW H)) (before : List MemPlace)
    (hval : ∀ (j : Nat) t v, Try.f4.params[j]? = some t → args[j]? = some v → Value.okWide Try.prog W .any base t v)
    (hW : DataW.Whole enc Try.prog Try.f4.params.toList Rows.fnExactEqualStateSpec.vars false W args.toList ds gs before)
    (_hL : laidMetH Try.prog Rows.fnExactEqualStateRow.laid W) (_hSh : W.ShapedOpen Try.prog) :
    Calls Try.prog 4 args W fun e W' => ∃ v, e = .returned v ∧ Rows.fnExactEqualStateSpec.post enc Try.prog Try.f4 false true false false W args v W' := by
  have hW' := hW
  have hlt : ∀ x ∈ before, x.block < W.heap.size := fun x hx => hW'.lt x hx
  obtain ⟨p, q, hA0, hV, rfl, _, _⟩ := hW
  have hA : DataW.TrodAll enc Try.prog W 0 (fun _ => true) true Try.f4.params.toList args.toList ds p := hA0
  rw [Try.params4] at hA hval
  obtain ⟨v0, v1, d0, d1, p0, p1, rfl, rfl, rfl, t0, t1⟩ := trodAll_two hA
  obtain ⟨x0, rfl, hp0, hok0⟩ := open_state Try.underlying31 (by kernel_rfl) (by kernel_rfl) (by kernel_rfl) Try.underlying3 Try.underlying29 (by kernel_rfl) Try.underlying27 Try.underlying27 Try.underlying3 (by kernel_rfl) (fun x hx => hlt x (by simp [hx])) (hval 0 31 v0 rfl rfl) t0
  obtain ⟨x1, rfl, hp1, hok1⟩ := open_state Try.underlying31 (by kernel_rfl) (by kernel_rfl) (by kernel_rfl) Try.underlying3 Try.underlying29 (by kernel_rfl) Try.underlying27 Try.underlying27 Try.underlying3 (by kernel_rfl) (fun x hx => hlt x (by simp [hx])) (hval 1 31 v1 rfl rfl) t1
  refine (walk x0 x1 W hp0.1 hp0.2 hok0 hp1.1 hp1.2 hok1).mono fun e W' ⟨he, hb⟩ => ?_
  subst he
  exact ⟨_, rfl, law_post laidOut rfl (by kernel_rfl) (by kernel_rfl) Try.underlying4 hW' rfl hb⟩

/-- A world for the witness. -/
noncomputable def start (os : Os) : World := World.holding Try.prog os ⟨#[], #[], []⟩
theorem laid_met (os : Os) : laidMet Try.prog Rows.fnExactEqualStateRow.laid ((start os).forCall (fun _ _ => 0) ⟨#[], #[.agg #[.int .i64 0, .slice none 0 0, .slice none 0 0], .agg #[.int .i64 0, .slice none 0 0, .slice none 0 0]], []⟩).memory :=
  laidMet_of_run' 8 (by kernel_rfl) (by kernel_rfl)
theorem reads (os : Os) {H : Type} (enc : TypeId × Value → H) : ∃ places, DataW.whole enc Try.prog ((start os).forCall (fun _ _ => 0) ⟨#[], #[.agg #[.int .i64 0, .slice none 0 0, .slice none 0 0], .agg #[.int .i64 0, .slice none 0 0, .slice none 0 0]], []⟩).memory Try.f4.params.toList Rows.fnExactEqualStateSpec.vars false #[Value.agg #[.int .i64 0, .slice none 0 0, .slice none 0 0], .agg #[.int .i64 0, .slice none 0 0, .slice none 0 0]].toList 8 = some ([.agg [.lit (.int .i64 0), .agg [.nil, .nil]], .agg [.lit (.int .i64 0), .agg [.nil, .nil]]], [], places) :=
  ⟨[], by kernel_rfl⟩

set_option maxRecDepth 100000 in
theorem lifted (os : Os) (started : os.Started) (H : Type) (enc : TypeId × Value → H) (F : Stop.Interp) :
    ReturnsInHanded {} Try.checked os 4 .any ((OpenSpec.ofChange Rows.fnExactEqualStateSpec).preRow enc Try.prog Try.f4 Rows.fnExactEqualStateRow.domain false Rows.fnExactEqualStateRow.laid) (((OpenSpec.ofChange Rows.fnExactEqualStateSpec).at F).post enc Try.prog Try.f4 false true false false) := by
  obtain ⟨places, hx⟩ := reads os enc
  refine returnsInHanded_of_row (C := Try.checked) (s := OpenSpec.ofChange Rows.fnExactEqualStateSpec) own started (by kernel_rfl) Try.func4
    (witness_row_at (enc := enc) (C := Try.checked) false (start os) #[.agg #[.int .i64 0, .slice none 0 0, .slice none 0 0], .agg #[.int .i64 0, .slice none 0 0, .slice none 0 0]] rfl (by kernel_rfl) (by kernel_rfl) (by kernel_rfl)
      (OpenSpec.preRow_of_cond 8 hx (by kernel_rfl) (fun k hk => by cases hk) (by kernel_rfl) (laid_met os))) ?_
  intro W base args ds gs before hval hW _ _ _ hL hSh _
  exact contract H enc W base args ds gs before hval hW hL hSh

theorem said : Rows.FnExactEqualStateSaid :=
  OpenClaim.holds_of_cond 4 Try.f4 rfl rfl rfl rfl rfl rfl rfl ⟨rfl, rfl, rfl, rfl, rfl⟩ rfl rfl rfl rfl rfl (by kernel_rfl) Try.func4 (by kernel_rfl)
    (of_decide_eq_true (by kernel_rfl)) (by unfold Func.isWrapper; first | (rw [if_pos (by decide +kernel)]; kernel_rfl) | (rw [if_neg (by decide +kernel)]; exact ⟨rfl, rfl⟩))
    (fun os started H enc _ F => by rw [OpenClaim.pre_eq_preRow]; exact lifted os started H enc F)
#print axioms said
end Go.Proofs.Ytpmmjaceehlpiaa.exactEqualState
