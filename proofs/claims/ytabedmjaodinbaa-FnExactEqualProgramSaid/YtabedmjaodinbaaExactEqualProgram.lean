/-
  Proved: for every two programs the law FnExactEqualProgram returns true and leaves its arguments as they were. No condition beyond the given row's own.
-/
import Derived.Test.YtabedmjaodinbaaSzEdges
import Derived.Test.YtabedmjaodinbaaToEdges
import Derived.Test.YtabedmjaodinbaaEqEdges
import Derived.Test.YtabedmjaodinbaaEqualProg
import Derived.Test.YtabedmjaodinbaaRows
import Derived.ChangeMaps5
import Derived.LaidLaws
namespace Go.Proofs.Ytabedmjaodinbaa.exactEqualProgram
open Go Go.RowKit Go.ChangeShapes Go.WideShapes Go.ChangeAt

/-- The law said true, and nothing old has turned. -/
def TrueEnd (w : World) (e : Ending) (w' : World) : Prop := e = .returned (.bool true) ∧ Below w.heap.size w w'

set_option maxHeartbeats 3200000 in
theorem walk (a : Option Addr) (ca : Nat) (xs : List ByteArray) (p : Int) (b : Option Addr) (cb : Nat) (es : List Ed) (c : Option Addr) (cc : Nat) (ys : List ByteArray) (q : Int) (d : Option Addr) (cd : Nat) (fs : List Ed) (w : World)
    (hx : xs.length ≤ maxLen ∧ (∀ s ∈ xs, s.size ≤ maxLen) ∧ Row w w.heap.size a (strVals xs)) (_hp : -9223372036854775808 ≤ p ∧ p ≤ 9223372036854775807) (he : es.length ≤ maxLen ∧ (∀ x ∈ es, x.Ok) ∧ Row w w.heap.size b (edVals es))
    (hy : ys.length ≤ maxLen ∧ (∀ s ∈ ys, s.size ≤ maxLen) ∧ Row w w.heap.size c (strVals ys)) (_hq : -9223372036854775808 ≤ q ∧ q ≤ 9223372036854775807) (hf : fs.length ≤ maxLen ∧ (∀ x ∈ fs, x.Ok) ∧ Row w w.heap.size d (edVals fs)) :
    Calls Try.prog 4 #[.agg #[.slice a xs.length ca, .int .i64 p, .slice b es.length cb], .agg #[.slice c ys.length cc, .int .i64 q, .slice d fs.length cd]] w (TrueEnd w) := by
  have keyA : ∀ W, Below w.heap.size w W → Row W W.heap.size a (strVals xs) ∧ Row W W.heap.size b (edVals es) := fun W h => ⟨(hx.2.2.below h).grow h.size, (he.2.2.below h).grow h.size⟩
  have keyB : ∀ W, Below w.heap.size w W → Row W W.heap.size c (strVals ys) ∧ Row W W.heap.size d (edVals fs) := fun W h => ⟨(hy.2.2.below h).grow h.size, (hf.2.2.below h).grow h.size⟩
  go_enter Try.func4, Try.ntmps4
  go_wp2_with fail
  obtain ⟨W0, hW0, hb0, hs0, hA0, hB0⟩ := two_box w (.slice a xs.length ca) (.int .i64 p) (.slice b es.length cb) (.slice c ys.length cc) (.int .i64 q) (.slice d fs.length cd) 25
  rw [hW0]
  clear hW0
  refine (szProgram a ca xs p b cb es 1048576 _ (by omega) ⟨hx.1, hx.2.1, (keyA _ hb0).1⟩ ⟨he.1, he.2.1, (keyA _ hb0).2⟩).mono ?_
  rintro e w1 ⟨r, rfl, hb1, hr, hok⟩
  have hB1 := hb0.trans (hb1.mono hb0.size)
  by_cases hneg : r < 0
  · go_wp2
    go_ret
    exact ⟨rfl, hB1⟩
  · have hnat : xs.length + es.length ≤ 1048576 := by have := hok (by omega); omega
    obtain ⟨r', rfl⟩ : ∃ r' : Nat, r = (r' : Int) := ⟨r.toNat, by omega⟩
    clear hok
    obtain ⟨c0, c1, c2⟩ := hB0.keep hs0 hb1
    go_wp2_with fail
    refine (szProgram c cc ys q d cd fs r' _ (by omega) ⟨hy.1, hy.2.1, (keyB _ hB1).1⟩ ⟨hf.1, hf.2.1, (keyB _ hB1).2⟩).mono ?_
    clear c0 c1 c2
    rintro e w2 ⟨r2, rfl, hb2, hr2, hok⟩
    have hB2 := hB1.trans (hb2.mono hB1.size)
    by_cases hneg2 : r2 < 0
    · go_wp2
      go_ret
      exact ⟨rfl, hB2⟩
    · have hnat2 : ys.length + fs.length ≤ 1048576 := by have := hok (by omega); omega
      clear hok
      have hAll : ∀ W, Below w2.heap.size w2 W → (Box3 W w.heap.size (.slice a xs.length ca) (.int .i64 p) (.slice b es.length cb) ∧ Box3 W (w.heap.size + 1) (.slice c ys.length cc) (.int .i64 q) (.slice d fs.length cd)) ∧ Below w.heap.size w W := fun W h => by
        have h02 : Below W0.heap.size W0 W := (hb1.trans (hb2.mono hb1.size)).trans (h.mono (Nat.le_trans hb1.size hb2.size))
        exact ⟨⟨hA0.keep (by omega) h02, hB0.keep hs0 h02⟩, hB2.trans (h.mono hB2.size)⟩
      have hs2 : w.heap.size + 1 < w2.heap.size := Nat.lt_of_lt_of_le hs0 (Nat.le_trans hb1.size hb2.size)
      clear hb1 hb2 hA0 hB0 hs0 hB1 hb0
      go_wp2_with fail
      go_region_held3 (fun w' => (w'.cell? ⟨w.heap.size, 0, none⟩ = some (.slice a xs.length ca) ∧ w'.cell? ⟨w.heap.size, 1, none⟩ = some (.int .i64 p) ∧ w'.cell? ⟨w.heap.size, 2, none⟩ = some (.slice b es.length cb)) ∧ (w'.cell? ⟨w.heap.size + 1, 0, none⟩ = some (.slice c ys.length cc) ∧ w'.cell? ⟨w.heap.size + 1, 1, none⟩ = some (.int .i64 q) ∧ w'.cell? ⟨w.heap.size + 1, 2, none⟩ = some (.slice d fs.length cd)))
        (first | with_reducible exact (hAll _ (Below.drew (Below.refl _ _))).1 | with_reducible exact (hAll _ H3).1 | with_reducible exact (hAll _ H4).1 | with_reducible exact (hAll _ H5).1)
        (first
          | (go_at_call 7; (with_reducible refine (toProgram a ca xs p b cb es _ (by omega) (by omega) (keyA _ (hAll _ (Below.drew (Below.refl _ _))).2).1 (keyA _ (hAll _ (Below.drew (Below.refl _ _))).2).2).mono ?_); rintro e w3 ⟨g1, g2, rfl, hg1, hg2, ho1, ho2, hb3⟩; have H3 := (Below.drew (Below.refl w2.heap.size w2)).trans hb3)
          | (go_at_call 7; (with_reducible refine (toProgram c cc ys q d cd fs _ (by omega) (by omega) (keyB _ (hAll _ H3).2).1 (keyB _ (hAll _ H3).2).2).mono ?_); rintro e w4 ⟨g3, g4, rfl, hg3, hg4, ho3, ho4, hb4⟩; have H4 := H3.trans (hb4.mono H3.size))
          | (go_at_call 14; (with_reducible refine (specEqual _ _ _ _ _ _ _ _ xs ys p q es fs _ hx.1 hy.1 he.1 hf.1 (((Row.owned ho1).below hb4).grow hb4.size) (((Row.ownedN ho2).below hb4).grow hb4.size) (Row.owned ho3) (Row.ownedN ho4)).mono ?_); rintro e w5 ⟨rfl, hb5⟩; have H5 := H4.trans (hb5.mono H4.size)))
      clear hb3 hb4 hb5 ho1 ho2 ho3 ho4 hg1 hg2 hg3 hg4 H3 H4
      generalize hres : sameProg xs ys p q es fs = res at *
      have Hres := Lib.hid hres
      clear hres
      obtain ⟨⟨⟨c0, c1, c2⟩, _⟩, hB5⟩ := hAll _ H5
      go_wp2_with fail
      refine (toProgram a ca xs p b cb es _ (by omega) (by omega) (keyA _ hB5).1 (keyA _ hB5).2).mono ?_
      clear c0 c1 c2
      rintro e w6 ⟨g1, g2, rfl, hg1, hg2, ho1, ho2, hb6⟩
      have H6 := H5.trans (hb6.mono H5.size)
      obtain ⟨⟨_, ⟨c0, c1, c2⟩⟩, hB6⟩ := hAll _ H6
      have hs6 : w.heap.size + 1 < w6.heap.size := Nat.lt_of_lt_of_le hs2 H6.size
      go_wp2_with fail
      obtain ⟨W7, hW7, hb7, hs7, hX0⟩ := one_box w6 (.slice (some ⟨g1, 0, none⟩) xs.length xs.length) (.int .i64 p) (.slice (some ⟨g2, 0, none⟩) es.length es.length) 31
      rw [hW7]
      clear hW7 c0 c1 c2
      have H7 := H6.trans (hb7.mono H6.size)
      have hB7 := (hAll _ H7).2
      refine (toProgram c cc ys q d cd fs _ (by omega) (by omega) (keyB _ hB7).1 (keyB _ hB7).2).mono ?_
      rintro e w8 ⟨g3, g4, rfl, hg3, hg4, ho3, ho4, hb8⟩
      obtain ⟨c0, c1, c2⟩ := hX0.keep hs7 hb8
      have hs8 : w6.heap.size < w8.heap.size := Nat.lt_of_lt_of_le hs7 hb8.size
      go_wp2_with fail
      obtain ⟨W9, hW9, hb9, hs9, hX1⟩ := one_box w8 (.slice (some ⟨g3, 0, none⟩) ys.length ys.length) (.int .i64 q) (.slice (some ⟨g4, 0, none⟩) fs.length fs.length) 31
      rw [hW9]
      clear hW9 c0 c1 c2
      have h69 : Below w6.heap.size w6 W9 := (hb7.trans (hb8.mono hb7.size)).trans (hb9.mono (Nat.le_trans hb7.size hb8.size))
      have hX : ∀ W, Below W9.heap.size W9 W → (Box3 W w6.heap.size (.slice (some ⟨g1, 0, none⟩) xs.length xs.length) (.int .i64 p) (.slice (some ⟨g2, 0, none⟩) es.length es.length) ∧ Box3 W w8.heap.size (.slice (some ⟨g3, 0, none⟩) ys.length ys.length) (.int .i64 q) (.slice (some ⟨g4, 0, none⟩) fs.length fs.length)) ∧
          ((Row W W.heap.size (some ⟨g1, 0, none⟩) (strVals xs) ∧ Row W W.heap.size (some ⟨g2, 0, none⟩) (edVals es)) ∧ (Row W W.heap.size (some ⟨g3, 0, none⟩) (strVals ys) ∧ Row W W.heap.size (some ⟨g4, 0, none⟩) (edVals fs))) ∧ Below w2.heap.size w2 W := fun W h => by
        have h6 : Below w6.heap.size w6 W := h69.trans (h.mono h69.size)
        have h8 : Below w8.heap.size w8 W := hb9.trans (h.mono hb9.size)
        have h7 : Below W7.heap.size W7 W := hb8.trans (h8.mono hb8.size)
        exact ⟨⟨hX0.keep hs7 h7, hX1.keep hs9 h⟩, ⟨⟨((Row.owned ho1).below h6).grow h6.size, ((Row.ownedN ho2).below h6).grow h6.size⟩, ⟨((Row.owned ho3).below h8).grow h8.size, ((Row.ownedN ho4).below h8).grow h8.size⟩⟩, H6.trans (h6.mono H6.size)⟩
      have hs89 : w8.heap.size < W9.heap.size := hs9
      clear hX0 hX1 ho1 ho2 ho3 ho4 hb7 hb8 hb9 hs7 hs9 h69 H7 hB7 hB6 hB5 H6 H5 hb6
      obtain ⟨_, ⟨⟨q1, q2⟩, ⟨q3, q4⟩⟩, _⟩ := hX _ (Below.refl _ _)
      refine (implEqual _ _ _ _ _ _ _ _ xs ys p q es fs _ hx.1 hy.1 he.1 hf.1 q1 q2 q3 q4).mono ?_
      clear q1 q2 q3 q4
      rw [Hres.out]
      rintro e w10 ⟨rfl, hb10⟩
      go_wp2
      go_region_held3 (fun w' => (w'.cell? ⟨w6.heap.size, 0, none⟩ = some (.slice (some ⟨g1, 0, none⟩) xs.length xs.length) ∧ w'.cell? ⟨w6.heap.size, 1, none⟩ = some (.int .i64 p) ∧ w'.cell? ⟨w6.heap.size, 2, none⟩ = some (.slice (some ⟨g2, 0, none⟩) es.length es.length)) ∧ (w'.cell? ⟨w.heap.size, 0, none⟩ = some (.slice a xs.length ca) ∧ w'.cell? ⟨w.heap.size, 1, none⟩ = some (.int .i64 p) ∧ w'.cell? ⟨w.heap.size, 2, none⟩ = some (.slice b es.length cb)))
        (first | with_reducible exact ⟨(hX _ (Below.drew hb10)).1.1, (hAll _ (hX _ (Below.drew hb10)).2.2).1.1⟩ | with_reducible exact ⟨(hX _ H11).1.1, (hAll _ (hX _ H11).2.2).1.1⟩ | with_reducible exact ⟨(hX _ H12).1.1, (hAll _ (hX _ H12).2.2).1.1⟩)
        (first
          | (go_at_call 7; (with_reducible refine (toProgram a ca xs p b cb es _ (by omega) (by omega) (keyA _ (hAll _ (hX _ (Below.drew hb10)).2.2).2).1 (keyA _ (hAll _ (hX _ (Below.drew hb10)).2.2).2).2).mono ?_); rintro e w11 ⟨g5, g6, rfl, hg5, hg6, ho5, ho6, hb11⟩; have H11 := (Below.drew hb10).trans (hb11.mono (Below.drew hb10).size))
          | (go_at_call 10; (with_reducible refine (eqProgramSame _ _ _ _ _ _ _ _ xs p es _ hx.1 he.1 (hX _ H11).2.1.1.1 (hX _ H11).2.1.1.2 (Row.owned ho5) (Row.ownedN ho6)).mono ?_); rintro e w12 ⟨rfl, hb12⟩; have H12 := H11.trans (hb12.mono H11.size)))
      clear hb11 hb12 ho5 ho6 hg5 hg6 H11 hb10
      go_wp2
      go_region_held3 (fun w' => (w'.cell? ⟨w8.heap.size, 0, none⟩ = some (.slice (some ⟨g3, 0, none⟩) ys.length ys.length) ∧ w'.cell? ⟨w8.heap.size, 1, none⟩ = some (.int .i64 q) ∧ w'.cell? ⟨w8.heap.size, 2, none⟩ = some (.slice (some ⟨g4, 0, none⟩) fs.length fs.length)) ∧ (w'.cell? ⟨w.heap.size + 1, 0, none⟩ = some (.slice c ys.length cc) ∧ w'.cell? ⟨w.heap.size + 1, 1, none⟩ = some (.int .i64 q) ∧ w'.cell? ⟨w.heap.size + 1, 2, none⟩ = some (.slice d fs.length cd)))
        (first | with_reducible exact ⟨(hX _ (Below.drew H12)).1.2, (hAll _ (hX _ (Below.drew H12)).2.2).1.2⟩ | with_reducible exact ⟨(hX _ H13).1.2, (hAll _ (hX _ H13).2.2).1.2⟩ | with_reducible exact ⟨(hX _ H14).1.2, (hAll _ (hX _ H14).2.2).1.2⟩)
        (first
          | (go_at_call 7; (with_reducible refine (toProgram c cc ys q d cd fs _ (by omega) (by omega) (keyB _ (hAll _ (hX _ (Below.drew H12)).2.2).2).1 (keyB _ (hAll _ (hX _ (Below.drew H12)).2.2).2).2).mono ?_); rintro e w13 ⟨g5, g6, rfl, hg5, hg6, ho5, ho6, hb13⟩; have H13 := (Below.drew H12).trans (hb13.mono (Below.drew H12).size))
          | (go_at_call 10; (with_reducible refine (eqProgramSame _ _ _ _ _ _ _ _ ys q fs _ hy.1 hf.1 (hX _ H13).2.1.2.1 (hX _ H13).2.1.2.2 (Row.owned ho5) (Row.ownedN ho6)).mono ?_); rintro e w14 ⟨rfl, hb14⟩; have H14 := H13.trans (hb14.mono H13.size)))
      go_wp2
      go_ret
      exact ⟨rfl, (hAll _ (hX _ H14).2.2).2⟩

theorem own : ownKnob Try.prog.godebug = none := by kernel_rfl
theorem laidOut : laidOutB Try.prog = true := by kernel_rfl
set_option maxRecDepth 100000 in
theorem contract (H : Type) (enc : TypeId × Value → H) (W : World) (base : Nat) (args : Array Value) (ds gs : List (DataW H)) (before : List MemPlace)
    (hval : ∀ (j : Nat) t v, Try.f4.params[j]? = some t → args[j]? = some v → Value.okWide Try.prog W .any base t v)
    (hW : DataW.Whole enc Try.prog Try.f4.params.toList Rows.fnExactEqualProgramSpec.vars false W args.toList ds gs before)
    (_hL : laidMetH Try.prog Rows.fnExactEqualProgramRow.laid W) (_hSh : W.ShapedOpen Try.prog) :
    Calls Try.prog 4 args W fun e W' => ∃ v, e = .returned v ∧ Rows.fnExactEqualProgramSpec.post enc Try.prog Try.f4 false true false false W args v W' := by
  have hW' := hW
  have hlt : ∀ x ∈ before, x.block < W.heap.size := fun x hx => hW'.lt x hx
  obtain ⟨p, q, hA0, hV, rfl, _, _⟩ := hW
  have hA : DataW.TrodAll enc Try.prog W 0 (fun _ => true) true Try.f4.params.toList args.toList ds p := hA0
  rw [Try.params4] at hA hval
  obtain ⟨v0, v1, d0, d1, p0, p1, rfl, rfl, rfl, t0, t1⟩ := trodAll_two hA
  obtain ⟨a0, cap0, ss0, n0, b0, capb0, es0, rfl, hss0, hn0, hes0⟩ := open_prog Try.underlying25 (by kernel_rfl) (by kernel_rfl) Try.underlying22 Try.underlying9 (by kernel_rfl) Try.underlying3 Try.underlying23 Try.underlying54 (by kernel_rfl) Try.underlying3 Try.underlying3 Try.underlying52 (by kernel_rfl) (by kernel_rfl) Try.underlying3 Try.underlying9 Try.underlying9 (fun x hx => hlt x (by simp [hx])) (hval 0 25 v0 rfl rfl) t0
  obtain ⟨a1, cap1, ss1, n1, b1, capb1, es1, rfl, hss1, hn1, hes1⟩ := open_prog Try.underlying25 (by kernel_rfl) (by kernel_rfl) Try.underlying22 Try.underlying9 (by kernel_rfl) Try.underlying3 Try.underlying23 Try.underlying54 (by kernel_rfl) Try.underlying3 Try.underlying3 Try.underlying52 (by kernel_rfl) (by kernel_rfl) Try.underlying3 Try.underlying9 Try.underlying9 (fun x hx => hlt x (by simp [hx])) (hval 1 25 v1 rfl rfl) t1
  refine (walk a0 cap0 ss0 n0 b0 capb0 es0 a1 cap1 ss1 n1 b1 capb1 es1 W hss0 hn0 hes0 hss1 hn1 hes1).mono fun e W' ⟨he, hb⟩ => ?_
  subst he
  exact ⟨_, rfl, law_post laidOut rfl (by kernel_rfl) (by kernel_rfl) Try.underlying4 hW' rfl hb⟩

/-- A world for the witness. -/
noncomputable def start (os : Os) : World := World.holding Try.prog os ⟨#[], #[], []⟩
theorem laid_met (os : Os) : laidMet Try.prog Rows.fnExactEqualProgramRow.laid ((start os).forCall (fun _ _ => 0) ⟨#[], #[.agg #[.slice none 0 0, .int .i64 0, .slice none 0 0], .agg #[.slice none 0 0, .int .i64 0, .slice none 0 0]], []⟩).memory :=
  laidMet_of_run' 8 (by kernel_rfl) (by kernel_rfl)
theorem reads (os : Os) {H : Type} (enc : TypeId × Value → H) : ∃ places, DataW.whole enc Try.prog ((start os).forCall (fun _ _ => 0) ⟨#[], #[.agg #[.slice none 0 0, .int .i64 0, .slice none 0 0], .agg #[.slice none 0 0, .int .i64 0, .slice none 0 0]], []⟩).memory Try.f4.params.toList Rows.fnExactEqualProgramSpec.vars false #[Value.agg #[.slice none 0 0, .int .i64 0, .slice none 0 0], .agg #[.slice none 0 0, .int .i64 0, .slice none 0 0]].toList 8 = some ([.agg [.nil, .lit (.int .i64 0), .nil], .agg [.nil, .lit (.int .i64 0), .nil]], [], places) :=
  ⟨[], by kernel_rfl⟩

set_option maxRecDepth 100000 in
theorem lifted (os : Os) (started : os.Started) (H : Type) (enc : TypeId × Value → H) (F : Stop.Interp) :
    ReturnsInHanded {} Try.checked os 4 .any ((OpenSpec.ofChange Rows.fnExactEqualProgramSpec).preRow enc Try.prog Try.f4 Rows.fnExactEqualProgramRow.domain false Rows.fnExactEqualProgramRow.laid) (((OpenSpec.ofChange Rows.fnExactEqualProgramSpec).at F).post enc Try.prog Try.f4 false true false false) := by
  obtain ⟨places, hx⟩ := reads os enc
  refine returnsInHanded_of_row (C := Try.checked) (s := OpenSpec.ofChange Rows.fnExactEqualProgramSpec) own started (by kernel_rfl) Try.func4
    (witness_row_at (enc := enc) (C := Try.checked) false (start os) #[.agg #[.slice none 0 0, .int .i64 0, .slice none 0 0], .agg #[.slice none 0 0, .int .i64 0, .slice none 0 0]] rfl (by kernel_rfl) (by kernel_rfl) (by kernel_rfl)
      (OpenSpec.preRow_of_cond 8 hx (by kernel_rfl) (fun k hk => by cases hk) (by kernel_rfl) (laid_met os))) ?_
  intro W base args ds gs before hval hW _ _ _ hL hSh _
  exact contract H enc W base args ds gs before hval hW hL hSh

theorem said : Rows.FnExactEqualProgramSaid :=
  OpenClaim.holds_of_cond 4 Try.f4 rfl rfl rfl rfl rfl rfl rfl ⟨rfl, rfl, rfl, rfl, rfl⟩ rfl rfl rfl rfl rfl (by kernel_rfl) Try.func4 (by kernel_rfl)
    (of_decide_eq_true (by kernel_rfl)) (by unfold Func.isWrapper; first | (rw [if_pos (by decide +kernel)]; kernel_rfl) | (rw [if_neg (by decide +kernel)]; exact ⟨rfl, rfl⟩))
    (fun os started H enc _ F => by rw [OpenClaim.pre_eq_preRow]; exact lifted os started H enc F)
#print axioms said
end Go.Proofs.Ytabedmjaodinbaa.exactEqualProgram
