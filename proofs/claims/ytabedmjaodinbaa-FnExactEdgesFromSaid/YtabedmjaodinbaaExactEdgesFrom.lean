/-
  Proved: for every program and every int the law FnExactEdgesFrom returns true and leaves its arguments as they were. No condition beyond the given row's own.
-/
import Derived.Test.YtabedmjaodinbaaSzEdges
import Derived.Test.YtabedmjaodinbaaToEdges
import Derived.Test.YtabedmjaodinbaaEqEdges
import Derived.Test.YtabedmjaodinbaaEdgesFrom
import Derived.Test.YtabedmjaodinbaaEqInts
import Derived.Test.YtabedmjaodinbaaMarkInts
import Derived.Test.YtabedmjaodinbaaMarkEdges
import Derived.Test.YtabedmjaodinbaaRows
import Derived.ChangeMaps5
import Derived.LaidLaws
namespace Go.Proofs.Ytabedmjaodinbaa.exactEdgesFrom
open Go Go.RowKit Go.ChangeShapes Go.WideShapes Go.ChangeAt

/-- The law said true, and nothing old has turned. -/
def TrueEnd (w : World) (e : Ending) (w' : World) : Prop := e = .returned (.bool true) ∧ Below w.heap.size w w'

/-- What is known while the law goes on: the argument's box, the model's answer (below s3), the program's answer (from s5 on); the copy's rows lie at gx and gy, from s3 on and below s5. -/
structure Now (w W : World) (u0 u1 u2 : Value) (s3 s5 : Nat) (ap : Option Addr) (ps : List Value) (ag : Option Addr) (cg m : Nat) (gs : List Value) : Prop where
  box : Box3 W w.heap.size u0 u1 u2
  below : Below w.heap.size w W
  p : Row W s3 ap ps
  g : W.ownsRow s5 3 1 (.slice ag m cg) m gs
  le : s5 ≤ W.heap.size
section
variable {w W W' : World} {u0 u1 u2 : Value} {s3 s5 : Nat} {ap : Option Addr} {ps : List Value} {ag : Option Addr} {cg m : Nat} {gs : List Value}
theorem Now.call (h : Now w W u0 u1 u2 s3 s5 ap ps ag cg m gs) (h3 : w.heap.size < s3) (h5 : s3 ≤ s5) (hb : Below W.heap.size W W') : Now w W' u0 u1 u2 s3 s5 ap ps ag cg m gs :=
  have := h.le
  ⟨h.box.keep (by omega) hb, h.below.trans (hb.mono h.below.size), h.p.keeps fun _ hp => hb.cell (by omega), own_keeps h.g hb, Nat.le_trans h.le hb.size⟩
theorem Now.markX {base1 base2 k n l gx gy : Nat} {e : Ending} (h : Now w W u0 u1 u2 s3 s5 ap ps ag cg m gs) (h3 : w.heap.size < s3) (h5 : s3 ≤ s5) (hx : s3 ≤ gx) (hy : s3 ≤ gy) (hx5 : gx < s5) (hy5 : gy < s5)
    (hm : MarkedProg base1 base2 k n l (some ⟨gx, 0, none⟩) (some ⟨gy, 0, none⟩) n l W e W') : Now w W' u0 u1 u2 s3 s5 ap ps ag cg m gs := by
  obtain ⟨_, _, _, hsz, hos, htape, hout, hk⟩ := hm
  have hle := h.le
  have old : ∀ j, j < s3 → W'.heap[j]? = W.heap[j]? := fun j hj => hk j (by omega) (fun e => by injection e with e; simp only at e; omega) (fun e => by injection e with e; simp only at e; omega)
  have new : ∀ j, s5 ≤ j → j < W.heap.size → W'.heap[j]? = W.heap[j]? := fun j hj hj' => hk j hj' (fun e => by injection e with e; simp only at e; omega) (fun e => by injection e with e; simp only at e; omega)
  have cold : ∀ g o, g < s3 → W'.cell? ⟨g, o, none⟩ = W.cell? ⟨g, o, none⟩ := fun g o hg => World.cell?_of_block (old g hg)
  refine ⟨⟨(cold _ _ h3).trans h.box.1, (cold _ _ h3).trans h.box.2.1, (cold _ _ h3).trans h.box.2.2⟩, ⟨hos.trans h.below.os, htape.trans h.below.tape, hout.trans h.below.output, Nat.le_trans h.below.size hsz, fun j hj => (old j (by omega)).trans (h.below.block j hj)⟩, h.p.keeps fun p hp => World.cell?_of_block (old _ hp), ?_, Nat.le_trans hle hsz⟩
  refine ⟨h.g.1, h.g.2.imp id ?_⟩
  rintro ⟨g, cap, cur, he, hb, hgc, r⟩
  refine ⟨g, cap, cur, he, hb, ?_, r⟩
  rw [new g hb ?_]
  · exact hgc
  · rcases Nat.lt_or_ge g W.heap.size with h1 | h1
    · exact h1
    · rw [Array.getElem?_eq_none h1] at hgc; cases hgc
theorem Now.markG {gs' : List Value} (h : Now w W u0 u1 u2 s3 s5 ap ps ag cg m gs) (h3 : w.heap.size < s3) (h5 : s3 ≤ s5) (hg : W.grownBy W' (Value.slice ag m cg).ownBlock) (hx : W'.ownsRow s5 3 1 (.slice ag m cg) m gs') : Now w W' u0 u1 u2 s3 s5 ap ps ag cg m gs' := by
  have hle := h.le
  have old : ∀ j, j < s5 → W'.heap[j]? = W.heap[j]? := fun j hj => hg.block j (by omega) fun e => by have := (h.g.lt j e.symm).1; omega
  have cold : ∀ g o, g < s5 → W'.cell? ⟨g, o, none⟩ = W.cell? ⟨g, o, none⟩ := fun g o hg => World.cell?_of_block (old g hg)
  exact ⟨⟨(cold _ _ (by omega)).trans h.box.1, (cold _ _ (by omega)).trans h.box.2.1, (cold _ _ (by omega)).trans h.box.2.2⟩, ⟨hg.os.trans h.below.os, hg.tape.trans h.below.tape, hg.output.trans h.below.output, Nat.le_trans h.below.size hg.size, fun j hj => (old j (by omega)).trans (h.below.block j hj)⟩, h.p.keeps fun p hp => World.cell?_of_block (old _ (by omega)), hx, Nat.le_trans hle hg.size⟩
end

set_option maxHeartbeats 3200000 in
theorem walk (a : Option Addr) (ca : Nat) (xs : List ByteArray) (p : Int) (b : Option Addr) (cb : Nat) (es : List Ed) (n : Int) (w : World)
    (hx : xs.length ≤ maxLen ∧ (∀ s ∈ xs, s.size ≤ maxLen) ∧ Row w w.heap.size a (strVals xs)) (_hp : -9223372036854775808 ≤ p ∧ p ≤ 9223372036854775807) (he : es.length ≤ maxLen ∧ (∀ x ∈ es, x.Ok) ∧ Row w w.heap.size b (edVals es)) (_h0 : -9223372036854775808 ≤ n) (_h1 : n ≤ 9223372036854775807) :
    Calls Try.prog 3 #[.agg #[.slice a xs.length ca, .int .i64 p, .slice b es.length cb], .int .i64 n] w (TrueEnd w) := by
  have keyA : ∀ W, Below w.heap.size w W → Row W W.heap.size a (strVals xs) ∧ Row W W.heap.size b (edVals es) := fun W h => ⟨(hx.2.2.below h).grow h.size, (he.2.2.below h).grow h.size⟩
  go_enter Try.func3, Try.ntmps3
  go_wp2_with fail
  obtain ⟨W0, hW0, hb0, hs0, hA0⟩ := one_box w (.slice a xs.length ca) (.int .i64 p) (.slice b es.length cb) 25
  rw [hW0]
  clear hW0
  refine (szProgram a ca xs p b cb es 1048576 _ (by omega) ⟨hx.1, hx.2.1, (keyA _ hb0).1⟩ ⟨he.1, he.2.1, (keyA _ hb0).2⟩).mono ?_
  rintro e w1 ⟨r, rfl, hb1, hr, hok⟩
  have hB1 := hb0.trans (hb1.mono hb0.size)
  by_cases hneg : r < 0
  · go_wp2
    go_ret
    exact ⟨rfl, hB1⟩
  · have hnat : xs.length + es.length ≤ 1048576 := by have := hok (by omega); omega
    clear hok
    obtain ⟨c0, c1, c2⟩ := hA0.keep hs0 hb1
    have hA1 := hA0.keep hs0 hb1
    have hs1 : w.heap.size < w1.heap.size := Nat.lt_of_lt_of_le hs0 hb1.size
    clear hA0 hs0 hb1 hb0
    go_wp2_with fail
    refine (toProgram a ca xs p b cb es _ (by omega) (by omega) (keyA _ hB1).1 (keyA _ hB1).2).mono ?_
    clear c0 c1 c2
    rintro e w2 ⟨g1, g2, rfl, hg1, hg2, ho1, ho2, hb2⟩
    go_wp2_with fail
    refine (specEdgesFrom _ _ _ _ _ es p n _ (by omega) (Row.ownedN ho2)).mono ?_
    rintro e w3 ⟨ap, cp, rfl, hcp, hp3, hb3⟩
    have hb13 : Below w1.heap.size w1 w3 := hb2.trans (hb3.mono hb2.size)
    have hB3 := hB1.trans (hb13.mono hB1.size)
    have hA3 := hA1.keep hs1 hb13
    have hs3 : w.heap.size < w3.heap.size := Nat.lt_of_lt_of_le hs1 hb13.size
    obtain ⟨c0, c1, c2⟩ := hA3
    have hA3 : Box3 w3 w.heap.size _ _ _ := ⟨c0, c1, c2⟩
    clear ho1 ho2 hb2 hb3 hb13 hg1 hg2 hA1 hs1
    go_wp2_with fail
    refine (toProgram a ca xs p b cb es _ (by omega) (by omega) (keyA _ hB3).1 (keyA _ hB3).2).mono ?_
    clear c0 c1 c2
    rintro e w4 ⟨gx, gy, rfl, hgx, hgy, hox, hoy, hb4⟩
    go_wp2_with fail
    obtain ⟨W5, hW5, hb5, hs5, hX5⟩ := one_box w4 (.slice (some ⟨gx, 0, none⟩) xs.length xs.length) (.int .i64 p) (.slice (some ⟨gy, 0, none⟩) es.length es.length) 31
    rw [hW5]
    clear hW5
    have hx4 := (hox.lt _ rfl).2
    have hy4 := (hoy.lt _ rfl).2
    have hox := own_keeps hox hb5
    have hoy := own_keeps hoy hb5
    have hb35 : Below w3.heap.size w3 W5 := hb4.trans (hb5.mono hb4.size)
    refine (implEdgesFrom _ _ _ _ _ es p n _ (by omega) (Row.ownedN hoy)).mono ?_
    rintro e w6 ⟨ag, cg, rfl, hcg, hg6, hb6⟩
    have hb36 : Below w3.heap.size w3 w6 := hb35.trans (hb6.mono hb35.size)
    have hN : Now w w6 (.slice a xs.length ca) (.int .i64 p) (.slice b es.length cb) w3.heap.size W5.heap.size ap (intVals (posFrom n 0 (fromsOf es))) ag cg (intVals (posFrom n 0 (fromsOf es))).length (intVals (posFrom n 0 (fromsOf es))) :=
      ⟨hA3.keep hs3 hb36, hB3.trans (hb36.mono hB3.size), (Row.owned hp3).below hb36, hg6, hb6.size⟩
    have hox6 := own_keeps hox hb6
    have hoy6 := own_keeps hoy hb6
    have hX6 := hX5.keep hs5 hb6
    have hlen : (posFrom n 0 (fromsOf es)).length ≤ 1048576 := by have := posFrom_length n (fromsOf es) 0; rw [fromsOf_length] at this; omega
    generalize hps : posFrom n 0 (fromsOf es) = ps at *
    rw [intVals_length] at *
    have h35 : w3.heap.size ≤ W5.heap.size := hb35.size
    have hgx5 : gx < W5.heap.size := Nat.lt_of_lt_of_le hx4 hb5.size
    have hgy5 : gy < W5.heap.size := Nat.lt_of_lt_of_le hy4 hb5.size
    have h4lt : w4.heap.size < w6.heap.size := Nat.lt_of_lt_of_le hs5 hb6.size
    have hAll : ∀ W, Below w6.heap.size w6 W → (Box3 W w4.heap.size (.slice (some ⟨gx, 0, none⟩) xs.length xs.length) (.int .i64 p) (.slice (some ⟨gy, 0, none⟩) es.length es.length) ∧ Box3 W w.heap.size (.slice a xs.length ca) (.int .i64 p) (.slice b es.length cb)) ∧
        (W.ownsRow gx 9 1 (.slice (some ⟨gx, 0, none⟩) xs.length xs.length) xs.length (strVals xs) ∧ W.ownsRow gy 44 5 (.slice (some ⟨gy, 0, none⟩) es.length es.length) es.length (edVals es)) ∧
        Now w W (.slice a xs.length ca) (.int .i64 p) (.slice b es.length cb) w3.heap.size W5.heap.size ap (intVals ps) ag cg ps.length (intVals ps) := fun W h =>
      ⟨⟨hX6.keep h4lt h, hN.box.keep (by have := hb6.size; omega) h⟩, ⟨own_keeps hox6 h, own_keeps hoy6 h⟩, hN.call hs3 h35 h⟩
    clear hox6 hoy6 hX6 hN hg6 hp3 hb36 hb6 hox hoy hb35 hX5 hb5 hb4 hA3 hs5 hx4 hy4 hcg hcp
    go_wp2_with fail
    refine (eqInts _ _ _ _ ps _ (by unfold maxLen; omega) (Row.owned (hAll _ (Below.refl _ _)).2.2.g) ((hAll _ (Below.refl _ _)).2.2.p.grow (by have := (hAll _ (Below.refl _ _)).2.2.le; omega))).mono ?_
    rintro e w7 ⟨d1, rfl, rfl⟩
    have hD : ∀ n, Below w6.heap.size w6 (w6.drewN n) := fun n => below_draws (Below.refl _ _) n
    go_wp2
    go_region_held3 (fun w' => (w'.cell? ⟨w4.heap.size, 0, none⟩ = some (.slice (some ⟨gx, 0, none⟩) xs.length xs.length) ∧ w'.cell? ⟨w4.heap.size, 1, none⟩ = some (.int .i64 p) ∧ w'.cell? ⟨w4.heap.size, 2, none⟩ = some (.slice (some ⟨gy, 0, none⟩) es.length es.length)) ∧ (w'.cell? ⟨w.heap.size, 0, none⟩ = some (.slice a xs.length ca) ∧ w'.cell? ⟨w.heap.size, 1, none⟩ = some (.int .i64 p) ∧ w'.cell? ⟨w.heap.size, 2, none⟩ = some (.slice b es.length cb)))
      (first | with_reducible exact (hAll _ (hD _)).1 | with_reducible exact (hAll _ (Below.drew (hD _))).1 | with_reducible exact (hAll _ H7).1 | with_reducible exact (hAll _ H8).1)
      (first
        | (go_at_call 7; (with_reducible refine (toProgram a ca xs p b cb es _ (by omega) (by omega) (keyA _ (hAll _ (hD _)).2.2.below).1 (keyA _ (hAll _ (hD _)).2.2.below).2).mono ?_); rintro e w7 ⟨g5, g6, rfl, hg5, hg6, ho5, ho6, hb7⟩; have H7 := (hD _).trans (hb7.mono (hD _).size))
        | (go_at_call 10; (with_reducible refine (eqProgramSame _ _ _ _ _ _ _ _ xs p es _ hx.1 he.1 (Row.owned (hAll _ H7).2.1.1) (Row.ownedN (hAll _ H7).2.1.2) (Row.owned ho5) (Row.ownedN ho6)).mono ?_); rintro e w8 ⟨rfl, hb8⟩; have H8 := H7.trans (hb8.mono H7.size)))
    obtain ⟨⟨⟨c0, c1, c2⟩, _⟩, ⟨hx8, hy8⟩, hN8⟩ := hAll _ H8
    clear hb7 hb8 ho5 ho6 hg5 hg6 H7 hAll hD
    go_wp2_with fail
    refine (markProgram gx gy 1 _ _ _ _ _ _ _ _ p _ (by omega) (by omega) (by omega) hx8 hy8 (fun j h1 h2 => by injection h1 with h1; injection h2 with h2; simp only at h1 h2; omega)).mono ?_
    rintro e w9 hm9
    have hN9 := hN8.markX hs3 h35 hgx (by omega) hgx5 hgy5 hm9
    obtain ⟨rfl, _⟩ := hm9
    clear c0 c1 c2 hx8 hy8 hN8
    have hq9 : ¬ (((1 + xs.length + es.length * 5 : Nat) : Int) < 0) := by omega
    go_wp2_with fail
    refine (eqInts _ _ _ _ ps _ (by unfold maxLen; omega) (Row.owned hN9.g) (hN9.p.grow (by have := hN9.le; omega))).mono ?_
    rintro e w10 ⟨d2, rfl, rfl⟩
    have hN10 := hN9.call hs3 h35 (below_draws (Below.refl _ _) d2)
    clear hN9
    go_wp2_with fail
    refine (markInts _ 1 _ _ _ _ _ (by omega) (by omega) hN10.g).mono ?_
    rintro e w11 ⟨rfl, hx11, hg11⟩
    have hN11 := hN10.markG hs3 h35 hg11 hx11
    clear hN10 hx11 hg11
    go_wp2_with fail
    refine (heldInts 1 _ _ _ _ (by omega) (by omega) (Row.owned hN11.g)).mono ?_
    rintro e w12 ⟨rfl, rfl⟩
    obtain ⟨c0, c1, c2⟩ := hN11.box
    go_wp2_with fail
    refine (toProgram a ca xs p b cb es _ (by omega) (by omega) (keyA _ hN11.below).1 (keyA _ hN11.below).2).mono ?_
    rintro e w13 ⟨g7, g8, rfl, hg7, hg8, ho7, ho8, hb13⟩
    have hN13 := hN11.call hs3 h35 hb13
    clear c0 c1 c2 hN11
    go_wp2_with fail
    refine (implEdgesFrom _ _ _ _ _ es p n _ (by omega) (Row.ownedN ho8)).mono ?_
    rw [hps]
    rintro e w14 ⟨ah, ch, rfl, hch, hh14, hb14⟩
    have hN14 := hN13.call hs3 h35 hb14
    rw [intVals_length] at *
    clear ho7 ho8 hb13 hb14 hN13
    go_wp2_with fail
    refine (eqInts _ _ _ _ ps _ (by unfold maxLen; omega) (Row.owned hh14) (hN14.p.grow (by have := hN14.le; omega))).mono ?_
    rintro e w15 ⟨d3, rfl, rfl⟩
    have hN15 := hN14.call hs3 h35 (below_draws (Below.refl _ _) d3)
    clear hh14 hN14
    go_wp2_with fail
    refine (heldInts 1 _ _ _ _ (by omega) (by omega) (Row.owned hN15.g)).mono ?_
    rintro e w16 ⟨rfl, rfl⟩
    go_wp2
    go_ret
    exact ⟨rfl, hN15.below⟩

theorem own : ownKnob Try.prog.godebug = none := by kernel_rfl
theorem laidOut : laidOutB Try.prog = true := by kernel_rfl
set_option maxRecDepth 100000 in
theorem contract (H : Type) (enc : TypeId × Value → H) (W : World) (base : Nat) (args : Array Value) (ds gs : List (DataW H)) (before : List MemPlace)
    (hval : ∀ (j : Nat) t v, Try.f3.params[j]? = some t → args[j]? = some v → Value.okWide Try.prog W .any base t v)
    (hW : DataW.Whole enc Try.prog Try.f3.params.toList Rows.fnExactEdgesFromSpec.vars false W args.toList ds gs before)
    (_hL : laidMetH Try.prog Rows.fnExactEdgesFromRow.laid W) (_hSh : W.ShapedOpen Try.prog) :
    Calls Try.prog 3 args W fun e W' => ∃ v, e = .returned v ∧ Rows.fnExactEdgesFromSpec.post enc Try.prog Try.f3 false true false false W args v W' := by
  have hW' := hW
  have hlt : ∀ x ∈ before, x.block < W.heap.size := fun x hx => hW'.lt x hx
  obtain ⟨p, q, hA0, hV, rfl, _, _⟩ := hW
  have hA : DataW.TrodAll enc Try.prog W 0 (fun _ => true) true Try.f3.params.toList args.toList ds p := hA0
  rw [Try.params3] at hA hval
  obtain ⟨v0, v1, d0, d1, p0, p1, rfl, rfl, rfl, t0, t1⟩ := trodAll_two hA
  obtain ⟨a0, cap0, ss0, n0, b0, capb0, es0, rfl, hss0, hn0, hes0⟩ := open_prog Try.underlying25 (by kernel_rfl) (by kernel_rfl) Try.underlying22 Try.underlying9 (by kernel_rfl) Try.underlying3 Try.underlying23 Try.underlying54 (by kernel_rfl) Try.underlying3 Try.underlying3 Try.underlying52 (by kernel_rfl) (by kernel_rfl) Try.underlying3 Try.underlying9 Try.underlying9 (fun x hx => hlt x (by simp [hx])) (hval 0 25 v0 rfl rfl) t0
  obtain ⟨n1, rfl, _, _, hw1⟩ := open_int Try.underlying3 (hval 1 3 v1 rfl rfl) t1
  have hr1 := i64_bounds hw1
  refine (walk a0 cap0 ss0 n0 b0 capb0 es0 n1 W hss0 hn0 hes0 hr1.1 hr1.2).mono fun e W' ⟨he, hb⟩ => ?_
  subst he
  exact ⟨_, rfl, law_post laidOut rfl (by kernel_rfl) (by kernel_rfl) Try.underlying4 hW' rfl hb⟩

/-- A world for the witness. -/
noncomputable def start (os : Os) : World := World.holding Try.prog os ⟨#[], #[], []⟩
theorem laid_met (os : Os) : laidMet Try.prog Rows.fnExactEdgesFromRow.laid ((start os).forCall (fun _ _ => 0) ⟨#[], #[.agg #[.slice none 0 0, .int .i64 0, .slice none 0 0], .int .i64 0], []⟩).memory :=
  laidMet_of_run' 8 (by kernel_rfl) (by kernel_rfl)
theorem reads (os : Os) {H : Type} (enc : TypeId × Value → H) : ∃ places, DataW.whole enc Try.prog ((start os).forCall (fun _ _ => 0) ⟨#[], #[.agg #[.slice none 0 0, .int .i64 0, .slice none 0 0], .int .i64 0], []⟩).memory Try.f3.params.toList Rows.fnExactEdgesFromSpec.vars false #[Value.agg #[.slice none 0 0, .int .i64 0, .slice none 0 0], .int .i64 0].toList 8 = some ([.agg [.nil, .lit (.int .i64 0), .nil], .lit (.int .i64 0)], [], places) :=
  ⟨[], by kernel_rfl⟩

set_option maxRecDepth 100000 in
theorem lifted (os : Os) (started : os.Started) (H : Type) (enc : TypeId × Value → H) (F : Stop.Interp) :
    ReturnsInHanded {} Try.checked os 3 .any ((OpenSpec.ofChange Rows.fnExactEdgesFromSpec).preRow enc Try.prog Try.f3 Rows.fnExactEdgesFromRow.domain false Rows.fnExactEdgesFromRow.laid) (((OpenSpec.ofChange Rows.fnExactEdgesFromSpec).at F).post enc Try.prog Try.f3 false true false false) := by
  obtain ⟨places, hx⟩ := reads os enc
  refine returnsInHanded_of_row (C := Try.checked) (s := OpenSpec.ofChange Rows.fnExactEdgesFromSpec) own started (by kernel_rfl) Try.func3
    (witness_row_at (enc := enc) (C := Try.checked) false (start os) #[.agg #[.slice none 0 0, .int .i64 0, .slice none 0 0], .int .i64 0] rfl (by kernel_rfl) (by kernel_rfl) (by kernel_rfl)
      (OpenSpec.preRow_of_cond 8 hx (by kernel_rfl) (fun k hk => by cases hk) (by kernel_rfl) (laid_met os))) ?_
  intro W base args ds gs before hval hW _ _ _ hL hSh _
  exact contract H enc W base args ds gs before hval hW hL hSh

theorem said : Rows.FnExactEdgesFromSaid :=
  OpenClaim.holds_of_cond 3 Try.f3 rfl rfl rfl rfl rfl rfl rfl ⟨rfl, rfl, rfl, rfl, rfl⟩ rfl rfl rfl rfl rfl (by kernel_rfl) Try.func3 (by kernel_rfl)
    (of_decide_eq_true (by kernel_rfl)) (by unfold Func.isWrapper; first | (rw [if_pos (by decide +kernel)]; kernel_rfl) | (rw [if_neg (by decide +kernel)]; exact ⟨rfl, rfl⟩))
    (fun os started H enc _ F => by rw [OpenClaim.pre_eq_preRow]; exact lifted os started H enc F)
#print axioms said
end Go.Proofs.Ytabedmjaodinbaa.exactEdgesFrom
