/-
  The program's canonical heap.
-/
import Derived.Deep.RegionLaw
import Derived.Deep.AppendLies
import Derived.Test.YtpmmjaceehlpiaaGreatDoorF01
namespace Go.Proofs.YtpmmjaceehlpiaaGreatDoor
open Go Go.RowKit Go.Maps

/-- All that the walk knows: the argument's box, the answer's box, the heap so far in a box at Q. -/
structure Cn (w : World) (Q : Nat) (u0 u1 x0 x1 : Value) (W : World) : Prop where
  below : Below w.heap.size w W
  arg : Box2 W w.heap.size u0 u1
  res : Box2 W (w.heap.size + 1) (.slice none 0 0) (.slice none 0 0)
  resf : ∀ o, W.frozen? ⟨w.heap.size + 1, o, none⟩ = false
  box : Box2 W Q x0 x1
  boxf : ∀ o, W.frozen? ⟨Q, o, none⟩ = false
  hQ : w.heap.size + 1 < Q
  hW : Q < W.heap.size
section
variable {w W W' : World} {Q : Nat} {u0 u1 x0 x1 : Value}
theorem Cn.same (h : Cn w Q u0 u1 x0 x1 W) (hb : Below w.heap.size w W') (hk : ∀ k, k ≤ Q → (k = w.heap.size ∨ k = w.heap.size + 1 ∨ k = Q) → W'.heap[k]? = W.heap[k]?) (hs : W.heap.size ≤ W'.heap.size) : Cn w Q u0 u1 x0 x1 W' :=
  have h1 := h.hQ
  have k0 := hk w.heap.size (by omega) (.inl rfl)
  have k1 := hk (w.heap.size + 1) (by omega) (.inr (.inl rfl))
  have k2 := hk Q (Nat.le_refl _) (.inr (.inr rfl))
  ⟨hb, ⟨(World.cell?_of_block k0).trans h.arg.1, (World.cell?_of_block k0).trans h.arg.2⟩, ⟨(World.cell?_of_block k1).trans h.res.1, (World.cell?_of_block k1).trans h.res.2⟩, fun o => (World.frozen?_of_block k1).trans (h.resf o),
    ⟨(World.cell?_of_block k2).trans h.box.1, (World.cell?_of_block k2).trans h.box.2⟩, fun o => (World.frozen?_of_block k2).trans (h.boxf o), h1, Nat.lt_of_lt_of_le h.hW hs⟩
theorem Cn.call (h : Cn w Q u0 u1 x0 x1 W) (hb : Below W.heap.size W W') : Cn w Q u0 u1 x0 x1 W' :=
  h.same (h.below.trans (hb.mono h.below.size)) (fun k hk _ => hb.block k (Nat.lt_of_le_of_lt hk h.hW)) hb.size
theorem Cn.growR {r : Option Nat} (h : Cn w Q u0 u1 x0 x1 W) (hg : W.grownBy W' r) (hr : ∀ k, r = some k → Q < k) : Cn w Q u0 u1 x0 x1 W' :=
  have h1 := h.hQ
  have h2 := h.hW
  h.same (h.below.grown hg (by omega) (fun k hk => by have := hr k hk; omega)) (fun k hk _ => hg.block k (by omega) fun e => by have := hr k e.symm; omega) hg.size
theorem Cn.setQ (h : Cn w Q u0 u1 x0 x1 W) (i : Nat) (u : Value) : Cn w Q u0 u1 (if i = 0 then u else x0) (if i = 1 then u else x1) (W.setCell ⟨Q, i, none⟩ u) :=
  have h1 := h.hQ
  have kp : ∀ j x, W.cell? ⟨Q, j, none⟩ = some x → (W.setCell ⟨Q, i, none⟩ u).cell? ⟨Q, j, none⟩ = some (if i = j then u else x) := fun j x hx => by
    by_cases hij : i = j
    · subst hij
      rw [if_pos rfl]
      exact World.cell?_setCell_same _ _ _ hx
    · rw [if_neg hij]
      exact (World.cell?_setCell_other _ _ _ _ (fun e => hij (by have := congrArg Addr.off e; simp at this; omega))).trans hx
  have kn : ∀ k, k ≠ Q → (W.setCell ⟨Q, i, none⟩ u).heap[k]? = W.heap[k]? := fun k hk => Below.heap_setCell _ _ _ _ hk
  ⟨h.below.setCell (p := ⟨Q, i, none⟩) (by show w.heap.size ≤ Q; omega) u,
    ⟨(World.cell?_of_block (kn _ (by show w.heap.size ≠ Q; omega))).trans h.arg.1, (World.cell?_of_block (kn _ (by show w.heap.size ≠ Q; omega))).trans h.arg.2⟩,
    ⟨(World.cell?_of_block (kn _ (by show w.heap.size + 1 ≠ Q; omega))).trans h.res.1, (World.cell?_of_block (kn _ (by show w.heap.size + 1 ≠ Q; omega))).trans h.res.2⟩,
    fun o => (World.frozen?_of_block (kn _ (by show w.heap.size + 1 ≠ Q; omega))).trans (h.resf o),
    ⟨kp 0 _ h.box.1, kp 1 _ h.box.2⟩, fun o => by simp [go_sem, h.boxf o], h1, by simpa using h.hW⟩
end
theorem own_shape {w : World} {base e size n : Nat} {v : Value} {xs : List Value} (h : w.ownsRow base e size v n xs) : ∃ a c, v = .slice a n c ∧ n ≤ c := by
  rcases h.2 with ⟨rfl, rfl⟩ | ⟨g, cap, cur, rfl, _, _, hc, _⟩
  · exact ⟨_, _, rfl, Nat.le_refl _⟩
  · exact ⟨_, _, rfl, hc⟩
theorem own_drew {w : World} {base e size n : Nat} {v : Value} {xs : List Value} (h : w.ownsRow base e size v n xs) : w.drew.ownsRow base e size v n xs := own_keeps h (Below.drew (Below.refl _ _))
theorem map_take_next {α β : Type} (f : α → β) (l : List α) (k : Nat) (h : k < l.length) : (l.take (k + 1)).map f = (l.take k).map f ++ [f l[k]] := by
  rw [take_next l k h, List.map_append]
  rfl
/-- What every target of a good heap is: null, or met. -/
theorem good_met {vs zs : List Int} {c : Int} (h : c = -1 ∨ isC zs c = true) (hm : isC zs c = true → c ∈ order vs zs) : c = -1 ∨ c ∈ order vs zs := h.imp id hm
theorem good_bounds {zs : List Int} {c : Int} (hz : zs.length ≤ 1048576) (h : c = -1 ∨ isC zs c = true) : -9223372036854775808 ≤ c ∧ c ≤ 9223372036854775807 := by
  rcases h with rfl | h
  · omega
  · have := isC_iff.1 h
    omega
theorem order_minus (vs zs : List Int) : -1 ∉ order vs zs := fun hm => by have := (order_end vs zs).cells _ hm; rw [isC_minus] at this; cases this

/-- A heap that a call made. -/
def MadeHeap (vs zs : List Int) (w : World) (e : Ending) (w' : World) : Prop :=
  ∃ a ca b cb, e = .returned (heV a vs.length ca b zs.length cb) ∧ HeapIn w.heap.size w'.heap.size w' a ca b cb (intVals vs) (intVals zs) ∧ Below w.heap.size w w'

set_option maxRecDepth 100000 in
set_option maxHeartbeats 3200000 in
theorem implCanonHeap (a b : Option Addr) (ca cb : Nat) (vs zs : List Int) (w : World) (hv : vs.length ≤ 1048576) (hz : zs.length ≤ 1048576) (h : HeapAt w a b vs zs) :
    Calls Tryz.prog 96 #[heV a vs.length ca b zs.length cb] w (MadeHeap (canonVs vs zs) (canonNs vs zs) w) := by
  obtain ⟨i0, hi, hz0, hz1, hz2⟩ := info_parts intInfoH
  have hat : ∀ W, Below w.heap.size w W → HeapAt W a b vs zs := fun W hb => h.below hb (Nat.le_refl _)
  have HAT := Lib.hid hat
  clear hat h
  go_enter Tryz.func96, Tryz.ntmps96
  go_wp2_with fail
  obtain ⟨W0, hW0, hb0, hs0, hA0, hR0⟩ := two_box2 w (.slice a vs.length ca) (.slice b zs.length cb) (.slice none 0 0) (.slice none 0 0) 30 30
  have hf0 : ∀ o, W0.frozen? ⟨w.heap.size + 1, o, none⟩ = false := fun o => by rw [← hW0]; simp [go_sem]
  rw [hW0]
  clear hW0
  have hAR : ∀ W, Below W0.heap.size W0 W → Box2 W w.heap.size (.slice a vs.length ca) (.slice b zs.length cb) ∧ Box2 W (w.heap.size + 1) (.slice none 0 0) (.slice none 0 0) ∧ (∀ o, W.frozen? ⟨w.heap.size + 1, o, none⟩ = false) ∧ Below w.heap.size w W := fun W hb =>
    ⟨hA0.keep (by omega) hb, hR0.keep hs0 hb, fun o => (hb.frozen (p := ⟨w.heap.size + 1, o, none⟩) hs0).trans (hf0 o), hb0.trans (hb.mono hb0.size)⟩
  clear hA0 hR0 hf0
  refine (implAreTargets a b a vs.length ca cb ca zs vs _ hv (HAT.out _ hb0).v).mono ?_
  rintro e w1 ⟨rfl, hb1⟩
  obtain ⟨⟨c0, c1⟩, ⟨r0, r1⟩, rf, hB1⟩ := hAR _ hb1
  have hs1 : w.heap.size + 1 < w1.heap.size := Nat.lt_of_lt_of_le hs0 hb1.size
  cases hgv : goodB zs vs with
  | false =>
    have hg : goodH vs zs = false := by simp [goodH, hgv]
    have Hg := Lib.hid hg
    clear hg
    go_wp2
    refine bodyPost_ret (v := heV none 0 0 none 0 0) (by simp [results, Tryz.results96, go_sem, r0, r1]) rfl ?_
    have e1 : canonVs vs zs = [] := by simp [canonVs, Hg.out]
    have e2 : canonNs vs zs = [] := by simp [canonNs, Hg.out]
    rw [e1, e2]
    refine ⟨none, 0, none, 0, rfl, ⟨⟨Nat.le_refl _, World.ownsRow_nil _ _ _ _, fun k hk => by cases hk⟩, ⟨Nat.le_refl _, World.ownsRow_nil _ _ _ _, fun k hk => by cases hk⟩, fun j hj => by cases hj⟩, ?_⟩
    repeat (first | with_reducible exact hB1 | with_reducible refine Below.setCell ?_ (by simp <;> omega) _)
  | true =>
    go_wp2_with fail
    refine (implAreTargets a b b vs.length ca cb cb zs zs _ hz (HAT.out _ hB1).z).mono ?_
    rintro e w2 ⟨rfl, hb2⟩
    have hb2 := hb1.trans (hb2.mono hb1.size)
    clear c0 c1 r0 r1 rf
    obtain ⟨⟨c0, c1⟩, ⟨r0, r1⟩, rf, hB2⟩ := hAR _ hb2
    have hs2 : w.heap.size + 1 < w2.heap.size := Nat.lt_of_lt_of_le hs0 hb2.size
    cases hgz : goodB zs zs with
    | false =>
      have hg : goodH vs zs = false := by simp [goodH, hgz]
      have Hg := Lib.hid hg
      clear hg
      go_wp2
      refine bodyPost_ret (v := heV none 0 0 none 0 0) (by simp [results, Tryz.results96, go_sem, r0, r1]) rfl ?_
      have e1 : canonVs vs zs = [] := by simp [canonVs, Hg.out]
      have e2 : canonNs vs zs = [] := by simp [canonNs, Hg.out]
      rw [e1, e2]
      refine ⟨none, 0, none, 0, rfl, ⟨⟨Nat.le_refl _, World.ownsRow_nil _ _ _ _, fun k hk => by cases hk⟩, ⟨Nat.le_refl _, World.ownsRow_nil _ _ _ _, fun k hk => by cases hk⟩, fun j hj => by cases hj⟩, ?_⟩
      repeat (first | with_reducible exact hB2 | with_reducible refine Below.setCell ?_ (by simp <;> omega) _)
    | true =>
      have hg : goodH vs zs = true := by simp [goodH, hgv, hgz]
      have e1 : canonVs vs zs = canonV vs zs := by simp [canonVs, hg]
      have e2 : canonNs vs zs = canonN vs zs := by simp [canonNs, hg]
      have E1 := Lib.hid e1
      have E2 := Lib.hid e2
      clear e1 e2 hg
      go_wp2_with fail
      refine (implNumbersOf a b ca cb vs zs _ hv hz (HAT.out _ hB2)).mono ?_
      rintro e w3 ⟨mb, rfl, hmb, hnum, hb3⟩
      have hb3 := hb2.trans (hb3.mono hb2.size)
      obtain ⟨hA3, hR3, rf3, hB3⟩ := hAR _ hb3
      have hs3 : w.heap.size + 1 < w3.heap.size := Nat.lt_of_lt_of_le hs0 hb3.size
      have hmb3 : mb < w3.heap.size := World.ownsMap.lt hnum
      clear c0 c1 r0 r1 rf hAR hb1 hb2 hb3 hs2 hs1 hB1 hB2 hb0 hs0
      have hD0 : Cn w w3.heap.size (.slice a vs.length ca) (.slice b zs.length cb) (.slice none 0 0) (.slice none 0 0) (w3.alloc (.cells #[.slice none 0 0, .slice none 0 0] 30)) := by
        have hk := (Below.refl w3.heap.size w3).alloc (Nat.le_refl _) (.cells #[.slice none 0 0, .slice none 0 0] 30)
        exact ⟨hB3.trans (hk.mono hB3.size), hA3.keep (by omega) hk, hR3.keep hs3 hk, fun o => (hk.frozen (p := ⟨w.heap.size + 1, o, none⟩) hs3).trans (rf3 o), by simp [Box2, go_sem], fun o => by simp [go_sem], hs3, by simp⟩
      have hnum0 : Numbers Unit (w3.alloc (.cells #[.slice none 0 0, .slice none 0 0] 30)) mb (order vs zs) := Numbers.below hnum ((Below.refl _ _).alloc (Nat.le_refl _) _)
      obtain ⟨c0, c1⟩ := hD0.arg
      go_wp2
      clear c0 c1 hA3 hR3 rf3 hB3 hnum
      have hQ0 : w.heap.size + 1 < w3.heap.size := hs3
      clear hs3
      generalize w3.alloc (.cells #[.slice none 0 0, .slice none 0 0] 30) = W4 at *
      generalize w3.heap.size = Q at *
      have hE := order_end vs zs
      have HE := Lib.hid hE
      clear hE
      go_loopw [27] (fun i wr => ∃ (k : Nat) (v : Value), k ≤ vs.length ∧ i = .int .i64 k ∧ Cn w Q (.slice a vs.length ca) (.slice b zs.length cb) v (.slice none 0 0) wr ∧ Numbers Unit wr mb (order vs zs) ∧ wr.ownsRow (Q + 1) 3 1 v k (intVals ((vs.take k).map (num (order vs zs)))))
        (fun i _ => vs.length - (intOf i).toNat)
      case atStart => exact ⟨0, _, Nat.zero_le _, rfl, hD0, hnum0, World.ownsRow_nil _ _ _ _⟩
      case round =>
        obtain ⟨k, v, hk, rfl, hD, hnum, hown⟩ := hrel
        obtain ⟨va, vc, rfl, hvc⟩ := own_shape hown
        by_cases hlt : k < vs.length
        · obtain ⟨bv, ov, rfl, hbv, hcv⟩ := (HAT.out _ hD.below).v k _ (intVals_at vs k hlt)
          have hcv' : wr.drew.cell? ⟨bv, ov + k, none⟩ = some (.int .i64 vs[k]) := hcv
          have hgood := goodB_at hgv (List.getElem_mem hlt)
          have hmet := good_met (vs := vs) hgood (fun hc => order_vars hc (List.getElem_mem hlt))
          have hbd := good_bounds hz hgood
          have hnx := map_take_next (num (order vs zs)) vs k hlt
          have HMET := Lib.hid hmet
          have HBD := Lib.hid hbd
          have HNX := Lib.hid hnx
          generalize vs[k] = x at *
          clear hmet hbd hnx hgood
          have HD := Lib.hid (hD.call (Below.drew (Below.refl _ _)))
          have HN := Lib.hid (show Numbers Unit wr.drew mb (order vs zs) from Numbers.below hnum (Below.drew (Below.refl _ _)))
          have HO := Lib.hid (own_drew hown)
          have hbox := HD.out.box.1
          have hboxf := HD.out.boxf
          have hQW := hD.hW
          have hnl := (num_bounds (order vs zs) x)
          have hbnd := hD.box.1
          clear hD hnum hown
          go_wp2
          go_region_law
            (first
              | (go_simp; go_at_call 132; (with_reducible refine (implNewNumber mb (order vs zs) x _ HE.out.nodup (order_minus vs zs) HMET.out HBD.out HN.out).mono ?_); rintro e w5 ⟨rfl, rfl⟩)
              | (refine step_append_lies _ rfl (.tmp 32) (.tmp 36) 28 rfl (Q + 1) 3 i0 (.int .i64 0) 1 8 Tryz.underlying28 hi hz0 hz1 hz2 rfl (by decide) (.slice va k vc) k (intVals ((vs.take k).map (num (order vs zs)))) ?_ (HO.out.alloc _) ⟨wr.heap.size, 0, none⟩ 1 1 [.int .i64 (num (order vs zs) x)] ?_ rfl ?_ ?_ (by omega) ?_ ?_ ?_ _ rfl ?_
                 · simp [Act.eval]
                 · simp [Act.eval]
                 · exact oneCell_at (w := wr.drew) _
                 · exact oneCell_int _
                 · unfold maxLen; omega
                 · omega
                 · exact Nat.le_trans (Nat.succ_le_of_lt hQW) (by simp)
                 intro g9 cap9 w9 hown9 hg9 hat9 hlt9
                 have D9 := (HD.out.call ((Below.refl _ _).alloc (Nat.le_refl _) _)).growR hg9 (fun j hj => by have := (HO.out.lt j hj).1; omega)
                 have N9 : Numbers Unit w9 mb (order vs zs) := World.ownsMap.kept (World.ownsMap.alloc HN.out _) hg9 (fun e => by have := (HO.out.lt mb e.symm).1; omega)
                 have d9 := D9.box.1
                 have pf9 := D9.boxf))
          all_goals
            have hrel := D9.setQ 0 (.slice (some ⟨g9, 0, none⟩) (k + 1) cap9)
            have hown10 : (w9.setCell ⟨Q, 0, none⟩ (.slice (some ⟨g9, 0, none⟩) (k + 1) cap9)).ownsRow (Q + 1) 3 1 (.slice (some ⟨g9, 0, none⟩) (k + 1) cap9) (k + 1) (intVals ((vs.take (k + 1)).map (num (order vs zs)))) := by
              rw [HNX.out, intVals_snoc]
              exact ownsRow_setCell_below hown9 (a := ⟨Q, 0, none⟩) (Nat.lt_succ_self Q) _
            have hnum10 : Numbers Unit (w9.setCell ⟨Q, 0, none⟩ (.slice (some ⟨g9, 0, none⟩) (k + 1) cap9)) mb (order vs zs) := World.ownsMap.setCell N9 (by show mb ≠ Q; omega) _
            go_wp2
            go_roundw
            case rel => first | exact ⟨k + 1, _, by omega, by go_num, hrel, hnum10, hown10⟩ | ((repeat apply Exists.intro); exact ⟨⟨k + 1, _, by omega, by go_num, hrel, hnum10, hown10⟩, rfl⟩)
            case measure => simp [intOf]; omega
        · have hk' : k = vs.length := by omega
          subst hk'
          rw [List.take_length] at hown
          have hlm := HE.out.len
          go_wp2_with fail
          refine (implInOrder (H := Unit) mb (order vs zs) _ (by omega) HE.out.nodup hnum).mono ?_
          rintro e w5 ⟨oa, oc, rfl, hoc, ho5, hb5⟩
          rw [intVals_length] at *
          have hD5 := hD.call hb5
          have hnum5 : Numbers Unit w5 mb (order vs zs) := Numbers.below hnum hb5
          have hV5 : OwnIn (Q + 1) w5.heap.size w5 3 1 (.slice va vs.length vc) vs.length (intVals (canonV vs zs)) := OwnIn.of (own_keeps hown hb5)
          have hO5 : RowIn wr.heap.size w5.heap.size w5 oa (intVals (order vs zs)) := (OwnIn.of ho5).rowIn
          have hQr : Q < wr.heap.size := hD.hW
          have hrM : wr.heap.size ≤ w5.heap.size := hb5.size
          clear hD hnum hown ho5 hb5 hD0 hnum0 hlt
          generalize wr.heap.size = R at *
          go_wp2
          generalize hM : w5.heap.size = M at *
          go_loopw [43] (fun i wr => ∃ (k : Nat) (v : Value), k ≤ (order vs zs).length ∧ i = .int .i64 k ∧ Cn w Q (.slice a vs.length ca) (.slice b zs.length cb) (.slice va vs.length vc) v wr ∧ Numbers Unit wr mb (order vs zs) ∧
              OwnIn (Q + 1) M wr 3 1 (.slice va vs.length vc) vs.length (intVals (canonV vs zs)) ∧ RowIn R M wr oa (intVals (order vs zs)) ∧ wr.ownsRow M 3 1 v k (intVals (((order vs zs).take k).map fun c => num (order vs zs) (nextC zs c))))
            (fun i _ => (order vs zs).length - (intOf i).toNat)
          case atStart => exact ⟨0, _, Nat.zero_le _, rfl, hD5, hnum5, hV5, hO5, World.ownsRow_nil _ _ _ _⟩
          case round =>
            obtain ⟨k, v, hk, rfl, hD, hnum, hV, hO, hown⟩ := hrel
            obtain ⟨na, nc, rfl, hnc⟩ := own_shape hown
            by_cases hlt : k < (order vs zs).length
            · have hxc := HE.out.cells _ (List.getElem_mem hlt)
              have hnextin := HE.out.closed _ (List.getElem_mem hlt)
              have hngood := nextC_good hgz hxc
              have hmet := good_met (vs := vs) hngood hnextin
              have hbd := good_bounds hz hngood
              have hnx := map_take_next (fun c => num (order vs zs) (nextC zs c)) (order vs zs) k hlt
              obtain ⟨j, hj, hjz⟩ := isC_nat hxc
              obtain ⟨bo, oo, rfl, hbo, hco⟩ := hO.row k _ (intVals_at _ k hlt)
              rw [hj] at hco
              simp only [hj, nextC_at hjz] at hnx hmet hbd
              obtain ⟨bz, oz, rfl, hbz, hcz⟩ := (HAT.out _ hD.below).z j _ (intVals_at zs j hjz)
              have hcz' : wr.drew.cell? ⟨bz, oz + j, none⟩ = some (.int .i64 zs[j]) := hcz
              generalize hzx : zs[j] = x at *
              have HMET := Lib.hid hmet
              have HBD := Lib.hid hbd
              have HNX := Lib.hid hnx
              have HD := Lib.hid (hD.call (Below.drew (Below.refl _ _)))
              have HN := Lib.hid (show Numbers Unit wr.drew mb (order vs zs) from Numbers.below hnum (Below.drew (Below.refl _ _)))
              have HO := Lib.hid (own_drew hown)
              have HV := Lib.hid (hV.below (Below.drew (Below.refl _ _)))
              have HR := Lib.hid (hO.below (Below.drew (Below.refl _ _)))
              have hbox := HD.out.box.2
              have hboxf := HD.out.boxf
              have harg := HD.out.arg.2
              have hbnd := hD.box.2
              have harn := hD.arg.2
              have hQW := hD.hW
              have hMW := hV.1
              have hnl := (num_bounds (order vs zs) x)
              have hlm2 : (order vs zs).length ≤ 1048576 := by omega
              have hjz' : ((j : Nat) : Int) < (zs.length : Int) := by omega
              clear hD hnum hown hV hO hmet hbd hnx hngood hnextin hxc hj hzx
              go_wp2
              go_region_law
                (first
                  | (go_simp; go_at_call 132; (with_reducible refine (implNewNumber mb (order vs zs) x _ HE.out.nodup (order_minus vs zs) HMET.out HBD.out HN.out).mono ?_); rintro e w6 ⟨rfl, rfl⟩)
                  | (refine step_append_lies _ rfl (.tmp 48) (.tmp 56) 28 rfl M 3 i0 (.int .i64 0) 1 8 Tryz.underlying28 hi hz0 hz1 hz2 rfl (by decide) (.slice na k nc) k (intVals (((order vs zs).take k).map fun c => num (order vs zs) (nextC zs c))) ?_ (HO.out.alloc _) ⟨wr.heap.size, 0, none⟩ 1 1 [.int .i64 (num (order vs zs) x)] ?_ rfl ?_ ?_ (by omega) ?_ ?_ ?_ _ rfl ?_
                     · simp [Act.eval]
                     · simp [Act.eval]
                     · exact oneCell_at (w := wr.drew) _
                     · exact oneCell_int _
                     · unfold maxLen; omega
                     · omega
                     · exact Nat.le_trans hMW (by simp)
                     intro g9 cap9 w9 hown9 hg9 hat9 hlt9
                     have hal := (Below.refl wr.drew.heap.size wr.drew).alloc (Nat.le_refl _) (.cells #[.int .i64 (num (order vs zs) x)] 3)
                     have T9 : Turn M w9.heap.size _ w9 := Turn.of_grown hg9 (fun j hj => ⟨(HO.out.lt j hj).1, by have h2 : j < wr.heap.size := (HO.out.lt j hj).2; have h1 : wr.heap.size + 1 ≤ w9.heap.size := (by have := hg9.size; simpa using this); omega⟩)
                     have D9 := (HD.out.call hal).growR hg9 (fun j hj => by have := (HO.out.lt j hj).1; omega)
                     have N9 : Numbers Unit w9 mb (order vs zs) := World.ownsMap.kept (World.ownsMap.alloc HN.out _) hg9 (fun e => by have := (HO.out.lt mb e.symm).1; omega)
                     have V9 := (HV.out.below hal).turn T9 (.inl (Nat.le_refl _))
                     have R9 := (HR.out.below hal).turn T9 (.inl (Nat.le_refl _))
                     have d9 := D9.box.2
                     have pf9 := D9.boxf))
              all_goals
                have tq : Turn Q (Q + 1) w9 (w9.setCell ⟨Q, 1, none⟩ (.slice (some ⟨g9, 0, none⟩) (k + 1) cap9)) := Turn.of_grown (grown_cell (grown_self _ _)) (fun j hj => by have := Option.some.inj hj; omega)
                have hrel := D9.setQ 1 (.slice (some ⟨g9, 0, none⟩) (k + 1) cap9)
                have hV10 := V9.turn tq (.inr (Nat.le_refl _))
                have hR10 := R9.turn tq (.inr (Nat.succ_le_of_lt hQr))
                have hown10 : (w9.setCell ⟨Q, 1, none⟩ (.slice (some ⟨g9, 0, none⟩) (k + 1) cap9)).ownsRow M 3 1 (.slice (some ⟨g9, 0, none⟩) (k + 1) cap9) (k + 1) (intVals (((order vs zs).take (k + 1)).map fun c => num (order vs zs) (nextC zs c))) := by
                  rw [HNX.out, intVals_snoc]
                  exact ownsRow_setCell_below hown9 (a := ⟨Q, 1, none⟩) (Nat.lt_of_lt_of_le hQr hrM) _
                have hnum10 : Numbers Unit (w9.setCell ⟨Q, 1, none⟩ (.slice (some ⟨g9, 0, none⟩) (k + 1) cap9)) mb (order vs zs) := World.ownsMap.setCell N9 (by show mb ≠ Q; omega) _
                go_wp2
                go_roundw
                case rel => first | exact ⟨k + 1, _, by omega, by go_num, hrel, hnum10, hV10, hR10, hown10⟩ | ((repeat apply Exists.intro); exact ⟨⟨k + 1, _, by omega, by go_num, hrel, hnum10, hV10, hR10, hown10⟩, rfl⟩)
                case measure => simp [intOf]; omega
            · have hk' : k = (order vs zs).length := by omega
              subst hk'
              rw [List.take_length] at hown
              obtain ⟨x0, x1⟩ := hD.box
              obtain ⟨r0, r1⟩ := hD.res
              have rf := hD.resf
              have hne : ¬ w.heap.size + 1 = Q := by omega
              have hblw := hD.below
              have hMW := hV.1
              have HV := Lib.hid hV
              have HN := Lib.hid hown
              clear hD hnum hV hO hown
              go_wp2
              refine bodyPost_ret (v := heV va vs.length vc na (order vs zs).length nc) (by simp [results, Tryz.results96, go_sem, r0, r1]) rfl ?_
              have tq : Turn (w.heap.size + 1) (w.heap.size + 2) wr ((wr.setCell ⟨w.heap.size + 1, 0, none⟩ (.slice va vs.length vc)).setCell ⟨w.heap.size + 1, 1, none⟩ (.slice na (order vs zs).length nc)) :=
                Turn.of_grown (grown_cell (grown_cell (grown_self _ _))) (fun j hj => by have := Option.some.inj hj; omega)
              have ev : (intVals (canonV vs zs)).length = vs.length := by rw [intVals_length]; simp [canonV]
              have en : (intVals (canonN vs zs)).length = (order vs zs).length := by rw [intVals_length]; simp [canonN]
              have ev' : (canonV vs zs).length = vs.length := by simp [canonV]
              have en' : (canonN vs zs).length = (order vs zs).length := by simp [canonN]
              rw [E1.out, E2.out]
              refine ⟨va, vc, na, nc, by rw [ev', en'], ⟨?_, ?_, ?_⟩, tq.below hblw (by omega) hblw.size⟩
              · rw [ev]
                exact (HV.out.turn tq (.inr (by omega))).mono (by omega) (by simp; omega) (Nat.le_refl _)
              · rw [en]
                exact ((OwnIn.of HN.out).turn tq (.inr (by omega))).mono (by omega) (by simp) (Nat.le_refl _)
              · rw [ev, en]
                intro j h1 h2
                have := HV.out.2.2 j h1
                have := (HN.out.lt j h2).1
                omega
end Go.Proofs.YtpmmjaceehlpiaaGreatDoor
