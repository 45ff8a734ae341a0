/-
  The program's walks over a heap: which numbers are cells, following, numbering.
-/
import Derived.Test.YtpmmjaceehlpiaaHeapMap
import Derived.Test.YtpmmjaceehlpiaaApart
import Derived.Deep.RegionHeld3
namespace Go.Proofs.Ytpmmjaceehlpiaa
open Go Go.RowKit Go.Maps

theorem implIsCell (a b : Option Addr) (na ca cb : Nat) (zs : List Int) (c : Int) (w : World) : Calls Try.prog 45 #[.agg #[.slice a na ca, .slice b zs.length cb], .int .i64 c] w (GaveX (.bool (isC zs c)) w) := by
  by_cases h0 : 0 ≤ c <;> by_cases h1 : c < zs.length
  all_goals
    go_enter Try.func45, Try.ntmps45
    go_wp2
    go_ret
    exact ⟨by simp [isC, h0, h1], (Below.refl _ _).alloc (Nat.le_refl _) _⟩

set_option maxRecDepth 100000 in
set_option maxHeartbeats 1600000 in
theorem implNumberFrom {H : Type} (a b : Option Addr) (na ca cb : Nat) (zs : List Int) (c : Int) (mb : Nat) (o : List Int) (w : World) (hz : zs.length ≤ 1048576) (hrow : Row w w.heap.size b (intVals zs)) (hE : OrdEnd zs o) (hown : Numbers H w mb o) :
    Calls Try.prog 50 #[.agg #[.slice a na ca, .slice b zs.length cb], .int .i64 c, .map (some mb)] w fun e w' => ∃ x : Int, e = .returned (.int .i64 x) ∧ Numbers H w' mb (addAll o (chain zs zs.length c)) ∧ w.grownBy w' (some mb) ∧ (o = [] → (decide (x ≠ -1) && !isC zs x) = badEnd zs zs.length c) := by
  have hmb : mb < w.heap.size := World.ownsMap.lt hown
  go_enter Try.func50, Try.ntmps50
  go_wp2_with fail
  obtain ⟨W0, hW0, hb0, hs0, hA0⟩ := one_box2 w (.slice a na ca) (.slice b zs.length cb) 34
  rw [hW0]
  clear hW0
  have hn0 := Numbers.below hown hb0
  have hr0 : Row W0 W0.heap.size b (intVals zs) := (hrow.below hb0).grow hb0.size
  go_loopw [1] (fun v wr => ∃ (cc : Int) (o1 : List Int) (n : Nat), v = .int .i64 cc ∧ Going zs o c o1 cc n ∧ Numbers H wr mb o1 ∧ W0.grownBy wr (some mb)) (fun _ wr => zs.length - mapSize wr mb)
  case atStart => exact ⟨c, o, zs.length, rfl, Going.start hE.toOrdOk hE.closed, hn0, grown_self _ _⟩
  case round =>
    obtain ⟨cc, o1, n, rfl, hgo, hnum, hgr⟩ := hrel
    have hrr := Numbers.row hn0 hr0 hgr
    have hsz := World.ownsMap.mapSize_eq hnum
    have hsay := says (H := H) hgo.ok.nodup
    have hlen := hgo.ok.len
    have hg0 : w.heap.size ≠ mb := by omega
    obtain ⟨c0, c1⟩ : Box2 wr w.heap.size (.slice a na ca) (.slice b zs.length cb) := ⟨hgr.cell hA0.1 (by simpa using hg0), hgr.cell hA0.2 (by simpa using hg0)⟩
    have hA1 : Box2 wr w.heap.size (.slice a na ca) (.slice b zs.length cb) := ⟨c0, c1⟩
    have hs1 : w.heap.size < wr.heap.size := Nat.lt_of_lt_of_le hs0 hgr.size
    rw [hsay.size_] at hsz
    have Hgo := Lib.hid hgo
    have Hsay := Lib.hid hsay
    have Hsz := Lib.hid hsz
    clear hgo hsay hsz
    go_wp2_with fail
    refine (implIsCell a b na ca cb zs cc _).mono ?_
    rintro e w1 ⟨rfl, hb1⟩
    have hnum1 := Numbers.below hnum hb1
    have hr1 := hrr.below (hb1.mono hgr.size)
    have hgr1 : W0.grownBy w1 (some mb) := grown_below hgr hb1
    clear c0 c1
    obtain ⟨c0, c1⟩ := hA1.keep hs1 hb1
    cases hc : isC zs cc with
    | false =>
      have Hend := Lib.hid (Hgo.out.stop (.inl hc))
      go_wp2
      go_ret
      exact ⟨cc, rfl, by rw [Hend.out.1]; exact hnum1, ⟨hgr1.os.trans hb0.os, hgr1.tape.trans hb0.tape, hgr1.output.trans hb0.output, Nat.le_trans hb0.size hgr1.size, fun k hk hne => (hgr1.block k (Nat.lt_of_lt_of_le hk hb0.size) hne).trans (hb0.block k hk)⟩, Hend.out.2.2⟩
    | true =>
      obtain ⟨k, rfl, hk⟩ := isC_nat hc
      have hwf : (Lit.int .i64 (k : Int)).wf = true := WalkArith.wf_i64 (by omega)
      have Hnum1 := Lib.hid hnum1
      by_cases hm : (k : Int) ∈ o1
      · have Hend := Lib.hid (Hgo.out.stop (.inr hm))
        have Hm := Lib.hid (decide_eq_true hm)
        clear hm
        go_wp2_with (first
          | (at_lookup; refine wpList_lookup_own_ok_int _ rfl _ _ 57 rfl 3 3 .i64 lawK Try.underlying57 Try.underlying3 (zeroE _) mb o1.length _ rfl Hnum1.out _ _ rfl (keyOf_int_mk Try.underlying3 hwf) ?_; intro cq hat hwc; rw [Hsay.out.has_, Hm.out]; clear hat)
          | go_in)
        go_ret
        exact ⟨k, rfl, by rw [Hend.out.1]; exact hnum1, ⟨hgr1.os.trans hb0.os, hgr1.tape.trans hb0.tape, hgr1.output.trans hb0.output, Nat.le_trans hb0.size hgr1.size, fun k hk hne => (hgr1.block k (Nat.lt_of_lt_of_le hk hb0.size) hne).trans (hb0.block k hk)⟩, Hend.out.2.2⟩
      · obtain ⟨m, rfl, hgo'⟩ := Hgo.out.step hc hm
        have hroom := Hgo.out.ok.room hc hm
        have hnx := nextC_at hk
        have Hm := Lib.hid (decide_eq_false hm)
        have Hnx := Lib.hid hnx
        have Hgo' := Lib.hid hgo'
        clear hm hnx hgo' Hgo
        go_wp2_with (first
          | (at_lookup; refine wpList_lookup_own_ok_int _ rfl _ _ 57 rfl 3 3 .i64 lawK Try.underlying57 Try.underlying3 (zeroE _) mb o1.length _ rfl Hnum1.out _ _ rfl (keyOf_int_mk Try.underlying3 hwf) ?_; intro cq hat hwc; rw [Hsay.out.has_, Hm.out]; clear hat)
          | (at_len; refine wpList_len_own _ rfl _ 57 rfl 3 3 Try.underlying57 _ mb o1.length _ rfl Hnum1.out ?_; rw [Hsay.out.size_])
          | (at_mapUpdate; refine wpList_mapUpdate_own _ rfl _ _ _ 57 rfl 3 3 lawK Try.underlying57 _ mb o1.length _ rfl Hnum1.out (by unfold maxLen; omega) _ _ _ rfl rfl (keyOf_int_mk Try.underlying3 hwf) _ [] (plainElem_int Try.underlying3 (WalkArith.wf_i64 (by omega))) ?_; intro w2 hown2 hgrow2; obtain ⟨b0, q0, rfl, hbW, hcz⟩ := hr1 k _ (intVals_at zs k hk); have hcz2 := hgrow2.cell hcz (fun e => World.ownsMap.ne_cell Hnum1.out hcz (by injection e)); have d0 := hgrow2.cell c0 (by simpa using hg0); have d1 := hgrow2.cell c1 (by simpa using hg0))
          | go_in)
        go_roundw
        case rel =>
          refine ⟨_, _, m, rfl, (by rw [← Hnx.out]; exact Hgo'.out), ?_, grown_next hgr1 hgrow2⟩
          unfold Numbers
          rw [mapOf_snoc, List.length_append]
          exact hown2
        case measure =>
          have h1 : (mapOf (o1 ++ [(k : Int)]) : DataW H) = _ := mapOf_snoc o1 (k : Int)
          have h2 := World.ownsMap.mapSize_eq hown2
          rw [← h1, (says Hgo'.out.ok.nodup).size_] at h2
          rw [h2, Hsz.out]
          simp
          omega
theorem sameKey_int (a b : Int) : (Lit.int .i64 a).sameKey (.int .i64 b) = decide (a = b) := by
  by_cases h : a = b
  · subst h
    simp [Lit.sameKey]
  · rw [Maps.sameKey_ne (lit_ne h)]
    simp [h]
theorem intInfoH : (Try.prog.info? 3).map (fun i => (i.zero, i.size, i.bytes)) = some (some (.int .i64 0), 1, 8) := by kernel_rfl

set_option maxRecDepth 100000 in
set_option maxHeartbeats 1600000 in
theorem implInOrder {H : Type} (mb : Nat) (o : List Int) (w : World) (hlen : o.length ≤ 1048576) (hn : o.Nodup) (hown : Numbers H w mb o) :
    Calls Try.prog 49 #[.map (some mb)] w (Built w.heap.size 3 (intVals o) w) := by
  obtain ⟨i0, hi, hz0, hz1, hz2⟩ := info_parts intInfoH
  have hsay := says (H := H) hn
  have hmb : mb < w.heap.size := World.ownsMap.lt hown
  by_cases he : o.length = 0
  · go_enter Try.func49, Try.ntmps49
    go_wp2_with (first
      | (at_len; refine wpList_len_own _ rfl _ 57 rfl 3 3 Try.underlying57 _ mb o.length _ rfl hown ?_; rw [hsay.size_, he])
      | go_in)
    go_ret
    have ho : o = [] := List.eq_nil_of_length_eq_zero he
    subst ho
    exact ⟨none, 0, rfl, Nat.le_refl _, World.ownsRow_nil _ _ _ _, Below.refl _ _⟩
  · have Hsay := Lib.hid hsay
    have Hown := Lib.hid hown
    clear hsay
    go_enter Try.func49, Try.ntmps49
    go_wp2_with (first
      | (at_len; refine wpList_len_own _ rfl _ 57 rfl 3 3 Try.underlying57 _ mb o.length _ rfl Hown.out ?_; rw [Hsay.out.size_])
      | (at_make; refine wpList_make_full _ rfl _ _ 27 rfl w.heap.size 3 i0 (.int .i64 0) 1 Try.underlying27 hi hz0 hz1 _ _ _ _ o.length rfl rfl rfl rfl (by rw [hz2]; omega) (by unfold maxLen; omega) (Nat.le_refl _) ?_; intro w0 hown0 hgrow0; have hm0 : Numbers H w0 mb o := World.ownsMap.kept Hown.out hgrow0 (by simp))
      | (at_range; refine wpList_range_own _ rfl _ 57 rfl 3 3 lawK Try.underlying57 _ mb o.length _ rfl hm0 ?_; intro w1 hrg1 hg1 hs1)
      | go_in)
    go_frame
    have hr1 : w.heap.size < w0.heap.size := (hown0.lt w.heap.size rfl).2
    have hr0 : w0.heap.size ≠ w.heap.size := by omega
    have ho1 := own_other hown0 hg1 (fun k hk => by simp)
    have hb1 : Below w.heap.size w w1 := ((Below.refl _ _).grown hgrow0 (Nat.le_refl _) (fun k h => by cases h)).grown hg1 hgrow0.size (fun k h => by cases h)
    generalize w0.heap.size = r at *
    clear hown0 hg1 hs1 hm0 hgrow0
    go_loopw [4] (fun _ wr => ∃ (left : Lit → Bool) (cnt : Nat) (ys : List Value), wr.ranges (H := H) Try.prog 3 (plainElem Try.prog 3) mb r o.length (mapOf o) left cnt ∧ ys.length = o.length ∧
        (∀ k (h : k < o.length), left (.int .i64 o[k]) = false → ys[k]? = some (.int .i64 o[k])) ∧ wr.ownsRow w.heap.size 3 1 (.slice (some ⟨w.heap.size, 0, none⟩) o.length o.length) o.length ys ∧ Below w.heap.size w wr)
      (fun _ wr => wr.rangeLeft mb r)
    case atStart =>
      refine ⟨_, _, _, hrg1, by simpa using ho1.1, fun k h hl => ?_, ho1, hb1⟩
      rw [Hsay.out.has_] at hl
      simp at hl
    case round =>
      obtain ⟨left, cnt, ys, hrg, hyl, hys, hownr, hb⟩ := hrel
      have Hrg := Lib.hid hrg
      have Hyl := Lib.hid hyl
      have Hys := Lib.hid hys
      have Ho := Lib.hid hownr
      have Hb := Lib.hid hb
      clear hrg hyl hys hownr hb
      go_wp2_with (first
        | (at_next; refine wpList_next_ranges_ii _ rfl _ rfl 3 3 .i64 .i64 lawK Try.underlying3 Try.underlying3 mb r o.length _ _ _ rfl Hrg.out ?_ ?_)
        | go_in)
      · intro hc0 hl0
        go_wp2
        go_ret
        have hfull : ys = intVals o := by
          apply List.ext_getElem?
          intro k
          by_cases hk : k < o.length
          · rw [Hys.out k hk (hl0 _), intVals_at o k hk]
          · rw [List.getElem?_eq_none (by rw [Hyl.out]; omega), List.getElem?_eq_none (by rw [intVals_length]; omega)]
        have ho := Ho.out
        rw [hfull] at ho
        exact built_end (intVals_length _).symm ho Hb.out
      · intro x c w2 cnt2 hwx hwc hlx hat hrg2 hlt hg2 hs2 hen
        have hhas := Maps.has_true_of_atKey hat
        rw [Hsay.out.has_] at hhas
        have hmem : x ∈ o := of_decide_eq_true hhas
        have hcn := hat (.lit (.int .i64 0))
        rw [Hsay.out.at_ x hmem] at hcn
        obtain ⟨k, hk, hxk, hnum⟩ := num_mem hmem
        obtain rfl : c = (k : Int) := by rw [← hnum]; injection hcn with hcn; injection hcn with _ hcn; exact hcn.symm
        have ho2 := own_other Ho.out hg2 (fun j hj e => by have := Option.some.inj hj; have := Option.some.inj e; simp at *; omega)
        have hb2 : Below w.heap.size w w2 := Hb.out.grown hg2 Hb.out.size (fun j hj => by have := Option.some.inj hj; have := Hrg.out.ne; have := Below.size Hb.out; omega)
        obtain ⟨old, hold⟩ : ∃ old, w2.cell? ⟨w.heap.size, k, none⟩ = some old := ⟨_, (ho2.cellAt k (by omega)).trans (List.getElem?_eq_getElem (by rw [Hyl.out]; exact hk))⟩
        have hfr := ho2.frozenAt k
        have hst := ho2.stored k (.int .i64 x)
        clear ho2 hat hhas hcn
        go_wp2
        have hrg3 := hrg2.kept (grown_cell (i := k) (u := .int .i64 x) (grown_self w2 (some w.heap.size))) (fun e => by have := Option.some.inj e; omega) (fun e => hr0 (Option.some.inj e))
        go_roundw
        case rel =>
          refine ⟨_, cnt2, ys.set k (.int .i64 x), hrg3, by rw [List.length_set]; exact Hyl.out, fun j hj hl => ?_, hst.1, hb2.setCell (Nat.le_refl _) _⟩
          by_cases hjk : j = k
          · subst hjk
            rw [List.getElem?_set_self (by rw [Hyl.out]; exact hj), hxk]
          · rw [List.getElem?_set_ne (Ne.symm hjk)]
            refine Hys.out j hj ?_
            rw [sameKey_int, decide_eq_false (fun e => hjk ((List.getElem_inj hn).1 (e.trans hxk.symm)))] at hl
            simpa using hl
        case measure => rw [hrg3.left_eq, Hrg.out.left_eq]; exact hlt

theorem grown_from {a b c : World} {r : Option Nat} (h : Below a.heap.size a b) (k : b.grownBy c r) : a.grownBy c r :=
  ⟨k.os.trans h.os, k.tape.trans h.tape, k.output.trans h.output, Nat.le_trans h.size k.size, fun j hj hd => (k.block j (Nat.lt_of_lt_of_le hj h.size) hd).trans (h.block j hj)⟩
theorem below_grown {B : Nat} {a b c : World} {m : Nat} (h : Below B a b) (hB : B ≤ b.heap.size) (k : b.grownBy c (some m)) (hm : B ≤ m) : Below B a c := h.grown k hB fun j hj => by have := Option.some.inj hj; omega

set_option maxRecDepth 100000 in
set_option maxHeartbeats 1600000 in
theorem implFollowed (a b : Option Addr) (na ca cb : Nat) (zs : List Int) (c : Int) (w : World) (hz : zs.length ≤ 1048576) (hrow : Row w w.heap.size b (intVals zs)) :
    Calls Try.prog 46 #[.agg #[.slice a na ca, .slice b zs.length cb], .int .i64 c] w (Built w.heap.size 3 (intVals (followed zs c)) w) := by
  have hmm := @run_makeMap Try.prog
  go_enter Try.func46, Try.ntmps46
  go_wp2_with fail
  obtain ⟨W0, hW0, hb0, hs0, hA0⟩ := one_box2 w (.slice a na ca) (.slice b zs.length cb) 34
  have hs : W0.heap.size = w.heap.size + 1 := by rw [← hW0]; simp
  rw [hW0]
  clear hW0
  have hbm : Below w.heap.size w (W0.alloc (.map #[] 0)) := hb0.alloc hb0.size _
  have hrow1 := (hrow.below hbm).grow hbm.size
  have hown : Numbers Unit (W0.alloc (.map #[] 0)) (w.heap.size + 1) [] := by
    rw [← hs]
    exact World.ownsMap_made _ _ _ _
  have hA1 : Box2 (W0.alloc (.map #[] 0)) w.heap.size (.slice a na ca) (.slice b zs.length cb) := hA0.keep hs0 ((Below.refl _ _).alloc (Nat.le_refl _) _)
  refine (implNumberFrom (H := Unit) a b na ca cb zs c (w.heap.size + 1) [] _ hz hrow1 OrdEnd.nil_ hown).mono ?_
  rintro e w1 ⟨x, rfl, hnum, hgr, hbad⟩
  have hB1 := below_grown hbm hbm.size hgr (by omega)
  obtain ⟨c0, c1⟩ : Box2 w1 w.heap.size (.slice a na ca) (.slice b zs.length cb) := ⟨hgr.cell hA1.1 (by simp), hgr.cell hA1.2 (by simp)⟩
  replace hbad := hbad rfl
  have Hnum := Lib.hid hnum
  clear hnum hgr hown hA1 hA0 hbm hrow1 hmm
  by_cases hx : x = -1
  · have hgood : badEnd zs zs.length c = false := by rw [← hbad]; simp [hx]
    have hf : followed zs c = addAll [] (chain zs zs.length c) := by rw [followed, hgood]; rfl
    have hxb : (x != -1) = false := by simpa using hx
    have Hf := Lib.hid hf
    clear hbad hgood hf hx
    go_wp2_with fail
    refine (implInOrder (H := Unit) (w.heap.size + 1) _ _ (Nat.le_trans (OrdOk.nil_.addAll fun _ hx => chain_cells hx).len hz) (OrdOk.nil_.addAll fun _ hx => chain_cells hx).nodup Hnum.out).mono ?_
    rintro e w2 ⟨ag, cg, rfl, hcg, hg, hb2⟩
    go_wp2
    go_ret
    rw [Hf.out]
    exact ⟨ag, cg, rfl, hcg, own_base hg hB1.size, hB1.trans (hb2.mono hB1.size)⟩
  · have hxb : (x != -1) = true := by simpa using hx
    go_wp2_with fail
    refine (implIsCell a b na ca cb zs x _).mono ?_
    rintro e w2 ⟨rfl, hb2⟩
    have hB2 := hB1.trans (hb2.mono hB1.size)
    have hnum2 := Numbers.below Hnum.out hb2
    cases hc : isC zs x with
    | false =>
      have hgood : badEnd zs zs.length c = true := by rw [← hbad]; simp [hx, hc]
      have hf : followed zs c = [] := by rw [followed, hgood]; rfl
      have Hf := Lib.hid hf
      clear hbad hgood hf hx
      go_wp2
      go_ret
      rw [Hf.out]
      exact ⟨none, 0, rfl, Nat.le_refl _, World.ownsRow_nil _ _ _ _, hB2⟩
    | true =>
      have hgood : badEnd zs zs.length c = false := by rw [← hbad]; simp [hc]
      have hf : followed zs c = addAll [] (chain zs zs.length c) := by rw [followed, hgood]; rfl
      have Hf := Lib.hid hf
      clear hbad hgood hf hx
      go_wp2_with fail
      refine (implInOrder (H := Unit) (w.heap.size + 1) _ _ (Nat.le_trans (OrdOk.nil_.addAll fun _ hx => chain_cells hx).len hz) (OrdOk.nil_.addAll fun _ hx => chain_cells hx).nodup hnum2).mono ?_
      rintro e w3 ⟨ag, cg, rfl, hcg, hg, hb3⟩
      go_wp2
      go_ret
      rw [Hf.out]
      exact ⟨ag, cg, rfl, hcg, own_base hg hB2.size, hB2.trans (hb3.mono hB2.size)⟩

set_option maxRecDepth 100000 in
set_option maxHeartbeats 1600000 in
theorem implNumbersOf (a b : Option Addr) (ca cb : Nat) (vs zs : List Int) (w : World) (hv : vs.length ≤ 1048576) (hz : zs.length ≤ 1048576) (h : HeapAt w a b vs zs) :
    Calls Try.prog 47 #[heV a vs.length ca b zs.length cb] w fun e w' => ∃ mb, e = .returned (.map (some mb)) ∧ w.heap.size ≤ mb ∧ Numbers Unit w' mb (order vs zs) ∧ Below w.heap.size w w' := by
  have hmm := @run_makeMap Try.prog
  go_enter Try.func47, Try.ntmps47
  go_wp2_with fail
  obtain ⟨W0, hW0, hb0, hs0, hA0⟩ := one_box2 w (.slice a vs.length ca) (.slice b zs.length cb) 34
  have hs : W0.heap.size = w.heap.size + 1 := by rw [← hW0]; simp
  rw [hW0]
  clear hW0
  have hbm : Below w.heap.size w (W0.alloc (.map #[] 0)) := hb0.alloc hb0.size _
  have hown : Numbers Unit (W0.alloc (.map #[] 0)) (w.heap.size + 1) [] := by
    rw [← hs]
    exact World.ownsMap_made _ _ _ _
  have hA1 : Box2 (W0.alloc (.map #[] 0)) w.heap.size (.slice a vs.length ca) (.slice b zs.length cb) := hA0.keep hs0 ((Below.refl _ _).alloc (Nat.le_refl _) _)
  have hs1 : w.heap.size < (W0.alloc (.map #[] 0)).heap.size := by simp; omega
  clear hA0 hs0 hs hb0
  generalize W0.alloc (.map #[] 0) = W1 at *
  go_loopw [10] (fun i wr => ∃ k : Nat, k ≤ vs.length ∧ i = .int .i64 k ∧ Numbers Unit wr (w.heap.size + 1) (orderFrom zs [] (vs.take k)) ∧ W1.grownBy wr (some (w.heap.size + 1))) (fun i _ => vs.length - (intOf i).toNat)
  case atStart => exact ⟨0, Nat.zero_le _, rfl, hown, grown_self _ _⟩
  case round =>
    obtain ⟨k, hk, rfl, hnum, hgr⟩ := hrel
    have hBr := below_grown hbm hbm.size hgr (by omega)
    obtain ⟨c0, c1⟩ : Box2 wr w.heap.size (.slice a vs.length ca) (.slice b zs.length cb) := ⟨hgr.cell hA1.1 (by simp), hgr.cell hA1.2 (by simp)⟩
    have hat := h.below hBr (Nat.le_refl _)
    have Hnum := Lib.hid hnum
    clear hnum
    by_cases hlt : k < vs.length
    · obtain ⟨bv, ov, rfl, hbv, hcv⟩ := hat.v k _ (intVals_at vs k hlt)
      have htk : orderFrom zs [] (vs.take (k + 1)) = addAll (orderFrom zs [] (vs.take k)) (chain zs zs.length vs[k]) := by rw [take_next vs k hlt, orderFrom_snoc]
      have Htk := Lib.hid htk
      clear htk
      go_wp2_with fail
      refine (implNumberFrom (H := Unit) _ b _ ca cb zs vs[k] (w.heap.size + 1) _ _ hz hat.z (orderFrom_end OrdEnd.nil_) Hnum.out).mono ?_
      rintro e w2 ⟨x, rfl, hnum2, hgr2, _⟩
      have hgr3 := grown_next hgr hgr2
      go_wp2
      go_roundw
      case rel => exact ⟨k + 1, by omega, by go_num, by rw [Htk.out]; exact hnum2, hgr3⟩
      case measure => simp [intOf]; omega
    · have hk' : k = vs.length := by omega
      have Hk := Lib.hid hk'
      clear hk'
      go_wp2
      go_ret
      have hn := Hnum.out
      rw [Hk.out, List.take_length] at hn
      exact ⟨_, rfl, by omega, hn, hBr⟩

theorem implNewNumber {H : Type} (mb : Nat) (o : List Int) (c : Int) (w : World) (hn : o.Nodup) (hm : -1 ∉ o) (hc : c = -1 ∨ c ∈ o) (hb : -9223372036854775808 ≤ c ∧ c ≤ 9223372036854775807) (hown : Numbers H w mb o) :
    Calls Try.prog 48 #[.map (some mb), .int .i64 c] w fun e w' => e = .returned (.int .i64 (num o c)) ∧ w = w' := by
  by_cases h1 : c = -1
  · subst h1
    rw [num_not hm]
    go_enter Try.func48, Try.ntmps48
    go_wp2
    go_ret
    exact ⟨rfl, rfl⟩
  · have hmem := hc.resolve_left h1
    have hsay := says (H := H) hn
    have hd : (c == -1) = false := by simpa using h1
    have hwf : (Lit.int .i64 c).wf = true := WalkArith.wf_i64 (by omega)
    clear h1
    go_enter Try.func48, Try.ntmps48
    go_wp2_with (first
      | (at_lookup; refine wpList_lookup_own_int _ rfl _ _ 57 rfl 3 3 .i64 lawK Try.underlying57 Try.underlying3 (zeroE _) mb o.length _ rfl hown _ _ rfl (keyOf_int_mk Try.underlying3 hwf) ?_; intro cq hat hwc)
      | go_in)
    go_ret
    rw [hsay.at_ c hmem] at hat
    injection hat with hat
    injection hat with _ hat
    exact ⟨by rw [hat]; rfl, rfl⟩

set_option maxHeartbeats 800000 in
theorem implAreTargets (a b d : Option Addr) (na ca cb cd : Nat) (zs l : List Int) (w : World) (hl : l.length ≤ 1048576) (hrow : Row w w.heap.size d (intVals l)) :
    Calls Try.prog 41 #[.agg #[.slice a na ca, .slice b zs.length cb], .slice d l.length cd] w (GaveX (.bool (goodB zs l)) w) := by
  go_enter Try.func41, Try.ntmps41
  go_wp2_with fail
  obtain ⟨W0, hW0, hb0, hs0, hA0⟩ := one_box2 w (.slice a na ca) (.slice b zs.length cb) 34
  rw [hW0]
  clear hW0
  go_loopw [9] (fun i wr => ∃ k : Nat, k ≤ l.length ∧ i = .int .i64 k ∧ goodB zs (l.take k) = true ∧ Below W0.heap.size W0 wr) (fun i _ => l.length - (intOf i).toNat)
  case atStart => exact ⟨0, Nat.zero_le _, rfl, rfl, Below.refl _ _⟩
  case round =>
    obtain ⟨k, hk, rfl, hall, hb⟩ := hrel
    have hBr := hb0.trans (hb.mono hb0.size)
    obtain ⟨c0, c1⟩ := hA0.keep hs0 hb
    have Hall := Lib.hid hall
    clear hall
    by_cases hlt : k < l.length
    · obtain ⟨bv, ov, rfl, hbv, hcv⟩ := (hrow.below hBr) k _ (intVals_at l k hlt)
      have hyes := goodB_next hlt Hall.out
      have hno := goodB_bad (zs := zs) hlt
      generalize l[k] = x at *
      by_cases hx : x = -1
      · have hxb : (x != -1) = false := by simpa using hx
        have Hy := Lib.hid (hyes (.inl hx))
        clear hyes hno hx
        go_wp2
        go_roundw
        case rel => exact ⟨k + 1, by omega, by go_num, Hy.out, hb⟩
        case measure => simp [intOf]; omega
      · have hxb : (x != -1) = true := by simpa using hx
        go_wp2_with fail
        refine (implIsCell a b na ca cb zs x _).mono ?_
        rintro e w2 ⟨rfl, hb2⟩
        cases hc : isC zs x with
        | false =>
          have Hn := Lib.hid (hno hx hc)
          clear hyes hno hx
          go_wp2
          go_ret
          rw [Hn.out]
          exact ⟨rfl, hBr.trans (hb2.mono hBr.size)⟩
        | true =>
          have Hy := Lib.hid (hyes (.inr hc))
          clear hyes hno hx
          go_wp2
          go_roundw
          case rel => exact ⟨k + 1, by omega, by go_num, Hy.out, hb.trans (hb2.mono hb.size)⟩
          case measure => simp [intOf]; omega
    · have hk' : k = l.length := by omega
      have ht : goodB zs l = true := by have := Hall.out; rwa [hk', List.take_length] at this
      have Ht := Lib.hid ht
      clear ht hk'
      go_wp2
      go_ret
      rw [Ht.out]
      exact ⟨rfl, hBr⟩

set_option maxRecDepth 100000 in
set_option maxHeartbeats 1600000 in
theorem implHasCycle (a b : Option Addr) (ca cb : Nat) (vs zs : List Int) (w : World) (hz : zs.length ≤ 1048576) (h : HeapAt w a b vs zs) (hg : goodB zs zs = true) :
    Calls Try.prog 42 #[heV a vs.length ca b zs.length cb] w (GaveX (.bool (!acyc zs)) w) := by
  go_enter Try.func42, Try.ntmps42
  go_wp2_with fail
  obtain ⟨W0, hW0, hb0, hs0, hA0⟩ := one_box2 w (.slice a vs.length ca) (.slice b zs.length cb) 34
  rw [hW0]
  clear hW0
  obtain ⟨c0, c1⟩ := hA0
  have hA0 : Box2 W0 w.heap.size (.slice a vs.length ca) (.slice b zs.length cb) := ⟨c0, c1⟩
  go_wp2
  clear c0 c1
  go_loopw [8] (fun i wr => ∃ k : Nat, k ≤ zs.length ∧ i = .int .i64 k ∧ (upTo k).all (acycAt zs) = true ∧ Below W0.heap.size W0 wr) (fun i _ => zs.length - (intOf i).toNat)
  case atStart => exact ⟨0, Nat.zero_le _, rfl, rfl, Below.refl _ _⟩
  case round =>
    obtain ⟨k, hk, rfl, hall, hb⟩ := hrel
    have hBr := hb0.trans (hb.mono hb0.size)
    obtain ⟨c0, c1⟩ := hA0.keep hs0 hb
    have hsr : w.heap.size < wr.heap.size := Nat.lt_of_lt_of_le hs0 hb.size
    have Hall := Lib.hid hall
    clear hall
    by_cases hlt : k < zs.length
    · go_wp2_with fail
      refine (implFollowed a b vs.length ca cb zs (k : Int) _ hz (h.below hBr (Nat.le_refl _)).z).mono ?_
      rintro e w2 ⟨ag, cg, rfl, hcg, hg2, hb2⟩
      rw [intVals_length] at *
      obtain ⟨hl, hcell⟩ := followed_here hg hlt
      have hac := acycAt_of hl
      obtain ⟨j, hj, hjz⟩ := isC_nat hcell
      rw [hj, nextC_at hjz] at hac
      obtain ⟨gb, go, rfl, hgb, hgc⟩ := Row.owned hg2 _ _ (intVals_at _ _ hl)
      rw [hj] at hgc
      have hB2 := hb.trans (hb2.mono hb.size)
      obtain ⟨bz, oz, rfl, hbz, hcz⟩ := (h.below (hb0.trans (hB2.mono hb0.size)) (Nat.le_refl _)).z j _ (intVals_at zs j hjz)
      obtain ⟨d0, d1⟩ := hA0.keep hs0 hB2
      have hlen : 1 ≤ (followed zs (k : Int)).length := by omega
      have hlm : (followed zs (k : Int)).length ≤ 1048576 := Nat.le_trans (followed_ok zs (k : Int)).len hz
      clear hg2 hcell hj hl c0 c1
      generalize (followed zs (k : Int)).length = n at *
      have hn1 : ((n : Int) - 1) = ((n - 1 : Nat) : Int) := by omega
      by_cases hx : zs[j] = -1
      · have hxb : (zs[j] != -1) = false := by simpa using hx
        rw [decide_eq_true hx] at hac
        have Hn := Lib.hid (acyc_next Hall.out hac)
        clear hac hx
        go_wp2
        go_quiet (fail)
        go_wp2
        go_roundw
        case rel => exact ⟨k + 1, by omega, by go_num, Hn.out, below_draws hB2 _⟩
        case measure => simp [intOf]; omega
      · have hxb : (zs[j] != -1) = true := by simpa using hx
        rw [decide_eq_false hx] at hac
        have Hn := Lib.hid (acyc_bad hlt hac)
        clear hac hx
        go_wp2
        go_quiet (fail)
        go_wp2
        go_ret
        exact ⟨by rw [Hn.out]; rfl, below_draws (hb0.trans (hB2.mono hb0.size)) _⟩
    · have hk' : k = zs.length := by omega
      have ht : acyc zs = true := by have := Hall.out; rw [hk'] at this; exact this
      have Ht := Lib.hid ht
      clear ht hk'
      go_wp2
      go_ret
      exact ⟨by rw [Ht.out]; rfl, hBr⟩
end Go.Proofs.Ytpmmjaceehlpiaa
