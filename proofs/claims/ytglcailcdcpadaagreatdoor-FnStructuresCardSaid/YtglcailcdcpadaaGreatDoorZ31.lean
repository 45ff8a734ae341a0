/-
  The program's text of a structure, as a whole.
-/
import Derived.Test.YtglcailcdcpadaaGreatDoorZ27
namespace Go.Proofs.YtglcailcdcpadaaGreatDoor
open Go Go.RowKit Go.ChangeShapes Go.WideShapes Go.ChangeAt

theorem nodesST_next {x : St} {b o k : Nat} (hk : k < x.ns.length) : nodesST x.body (k + 1) = nodesST x.body k ++ [nodeST (linkAt x b o k).n.body (linkAt x b o k).es] := by
  rw [nodesST_succ]
  have e1 : x.body.1.getD k (([], []), 0, 0) = (linkAt x b o k).n.body := by
    show (x.ns.map Nd.body).getD k _ = (x.ns.getD k zeroNd).body
    simp [hk]
  have e2 : partE x.body.1.length x.body.2 k = (linkAt x b o k).es := by
    show (x.zs.drop (k * (x.ns.map Nd.body).length)).take (x.ns.map Nd.body).length = (x.zs.drop (k * x.ns.length)).take x.ns.length
    rw [List.length_map]
  rw [e1, e2]
set_option maxRecDepth 100000 in
set_option maxHeartbeats 3200000 in
theorem implStText_some (sa : Option Addr) (sc : Nat) (ss : List ByteArray) (ba oa ca : Nat) (ns : List Nd) (b o cb : Nat) (zs : List Int) (r : ByteArray) (w : World) (hs : ss.length ≤ maxLen) (hws : ∀ s ∈ ss, s.size ≤ maxLen) (hrow : Row w w.heap.size sa (strVals ss)) (hg : goodVars ss = true)
    (hst : stB (ss.length : Int) (St.body ⟨some ⟨ba, oa, none⟩, ca, ns, some ⟨b, o, none⟩, cb, zs⟩) = true) (hn0 : 0 < ns.length) (hr : r = ⟨(jn (nodesST (St.body ⟨some ⟨ba, oa, none⟩, ca, ns, some ⟨b, o, none⟩, cb, zs⟩) ns.length) ⟨#[32]⟩).toArray⟩)
    (hcap : zs.length ≤ cb) (hat : St.At w ⟨some ⟨ba, oa, none⟩, ca, ns, some ⟨b, o, none⟩, cb, zs⟩) (hsm : Small (St.body ⟨some ⟨ba, oa, none⟩, ca, ns, some ⟨b, o, none⟩, cb, zs⟩)) (hP : Pows w) :
    Calls Tryz.prog 18 #[.slice sa ss.length sc, heV (some ⟨ba, oa, none⟩) ns.length ca (some ⟨b, o, none⟩) zs.length cb] w (GaveX (.string r) w) := by
  obtain ⟨i0, hi, hz0, hz1, hz2⟩ := info_parts strInfoST
  obtain ⟨X, hX⟩ : ∃ X : St, (⟨some ⟨ba, oa, none⟩, ca, ns, some ⟨b, o, none⟩, cb, zs⟩ : St) = X := ⟨_, rfl⟩
  have hok := stOk hst
  have hv4 := hok.v4
  have hn10 : ns.length ≤ 10 := hok.n10
  have hlen : zs.length = ns.length * ns.length := hok.sq
  have hzl : zs.length ≤ 100 := by rw [hlen]; exact Nat.mul_le_mul hn10 hn10
  have htot := nodes_total hok
  have hjl := jn_length (nodesST (St.body ⟨some ⟨ba, oa, none⟩, ca, ns, some ⟨b, o, none⟩, cb, zs⟩) ns.length) ⟨#[32]⟩
  have hsep : (⟨#[32]⟩ : ByteArray).size = 1 := rfl
  have HEACH := Lib.hid hok.each
  have HLEN := Lib.hid hlen
  have HST := Lib.hid hst
  have HSM := Lib.hid hsm
  have HCAP := Lib.hid hcap
  have HR := Lib.hid hr
  have hsl := hs
  unfold maxLen at hsl
  have HAT := Lib.hid (fun (W : World) (h : Below w.heap.size w W) => And.intro (hat.below h) (And.intro ((hrow.below h).grow h.size) (hP.keeps h)))
  have HNX := Lib.hid (fun (k : Nat) (hk : k < ns.length) => nodesST_next (x := ⟨some ⟨ba, oa, none⟩, ca, ns, some ⟨b, o, none⟩, cb, zs⟩) (b := b) (o := o) hk)
  have hNL := nodesST_length (St.body ⟨some ⟨ba, oa, none⟩, ca, ns, some ⟨b, o, none⟩, cb, zs⟩)
  simp only at HEACH htot
  rw [hX] at HNX hjl htot HR HST HSM hNL
  rw [hNL, hsep] at hjl
  have HXX := Lib.hid hX
  have HNL := Lib.hid hNL
  clear hok hlen hst hr hat hrow hP hsm hX hNL hcap
  go_enter Tryz.func18, Tryz.ntmps18
  go_wp2_with fail
  obtain ⟨W0, hW0, hb0, hs0, hA0⟩ := one_box2 w (.slice (some ⟨ba, oa, none⟩) ns.length ca) (.slice (some ⟨b, o, none⟩) zs.length cb) 27
  rw [hW0]
  clear hW0
  have HA := Lib.hid (fun (W : World) (h : Below W0.heap.size W0 W) => And.intro (hA0.keep hs0 h) (hb0.trans (h.mono hb0.size)))
  clear hA0
  refine (implAreVars sa sc ss _ hs hws (HAT.out _ hb0).2.1).mono ?_
  rw [hg]
  rintro e w1 ⟨rfl, hb1⟩
  obtain ⟨⟨c0, c1⟩, hB1⟩ := HA.out _ hb1
  go_wp2_with fail
  have hI := implIsStructure (ss.length : Int) ⟨some ⟨ba, oa, none⟩, ca, ns, some ⟨b, o, none⟩, cb, zs⟩ w1 (by rw [HXX.out]; exact HSM.out) HCAP.out (HAT.out _ hB1).1
  rw [HXX.out, HST.out] at hI
  rw [← HXX.out] at hI
  refine hI.mono ?_
  clear hI
  rintro e w2 ⟨rfl, hb2⟩
  have hb02 := hb1.trans (hb2.mono hb1.size)
  clear c0 c1
  obtain ⟨⟨c0, c1⟩, hB2⟩ := HA.out _ hb02
  have hne : ((ns.length : Int) == 0) = false := beq_eq_false_iff_ne.2 (by omega)
  go_wp2_with fail
  refine (implLinks ba oa ca ns b o cb zs _ (by omega) (by omega) HCAP.out HLEN.out (HAT.out _ hB2).1).mono ?_
  rintro e w3 ⟨va, vc, rfl, hown, hb3⟩
  have hB3 := hB2.trans (hb3.mono hB2.size)
  have hrow := OwnIn.row (OwnIn.of hown)
  have HROW := Lib.hid (fun (W : World) (h : Below w3.heap.size w3 W) => And.intro ((hrow.below h).grow h.size) (hB3.trans (h.mono hB3.size)))
  have hLL := linksTo_length ⟨some ⟨ba, oa, none⟩, ca, ns, some ⟨b, o, none⟩, cb, zs⟩ b o ns.length
  have HGET := Lib.hid (fun (k : Nat) (h : k < ns.length) (W : World) (hW : Below w3.heap.size w3 W) => And.intro (((HAT.out _ (HROW.out W hW).2).1.nodes.each _ (List.getElem_mem h))) (And.intro (row_part (HAT.out _ (HROW.out W hW).2).1.next (k * ns.length) ns.length) (HAT.out _ (HROW.out W hW).2).2.2))
  clear hrow hown c0 c1 hb3 hB3
  go_wp2
  go_loopw [5, 25] (fun v i wr => ∃ k : Nat, k ≤ ns.length ∧ i = .int .i64 k ∧ wr.ownsRow w3.heap.size 9 1 v k (strVals (nodesST X.body k)) ∧ Below w3.heap.size w3 wr) (fun _ i _ => ns.length - (intOf i).toNat)
  case atStart => exact ⟨0, Nat.zero_le _, rfl, World.ownsRow_nil _ _ _ _, Below.refl _ _⟩
  case round =>
    obtain ⟨k, hk, rfl, hown, hbw⟩ := hrel
    obtain ⟨la, lc, rfl, hlc⟩ := own_shapeT hown
    by_cases hlt : k < ns.length
    · have hkl : k < (linksTo ⟨some ⟨ba, oa, none⟩, ca, ns, some ⟨b, o, none⟩, cb, zs⟩ b o ns.length).length := by rw [hLL]; exact hlt
      obtain ⟨bv, ov, rfl, hbv, hc⟩ := Row.item lkCells_length (by omega) (HROW.out _ hbw).1 k hkl
      have hy1 := fun W hW => (HGET.out k hlt W hW)
      have hys := HEACH.out _ (List.getElem_mem hlt)
      have hnx := HNX.out k hlt
      have e1 : (linkAt ⟨some ⟨ba, oa, none⟩, ca, ns, some ⟨b, o, none⟩, cb, zs⟩ b o k).n = ns[k] := by show ns.getD k zeroNd = _; simp [hlt]
      have e2 : (linkAt ⟨some ⟨ba, oa, none⟩, ca, ns, some ⟨b, o, none⟩, cb, zs⟩ b o k).e = some ⟨b, o + k * ns.length, none⟩ := rfl
      have e3 : (linkAt ⟨some ⟨ba, oa, none⟩, ca, ns, some ⟨b, o, none⟩, cb, zs⟩ b o k).es = (zs.drop (k * ns.length)).take ns.length := rfl
      rw [← e1, ← e2, ← e3] at hy1
      rw [← e1] at hys
      have hel : (linkAt ⟨some ⟨ba, oa, none⟩, ca, ns, some ⟨b, o, none⟩, cb, zs⟩ b o k).es.length ≤ 10 := by rw [e3, List.length_take]; omega
      rw [← HXX.out] at hnx
      rw [linksTo_get hkl] at hc
      clear e1 e2 e3
      generalize linkAt ⟨some ⟨ba, oa, none⟩, ca, ns, some ⟨b, o, none⟩, cb, zs⟩ b o k = y at *
      rw [HXX.out] at hnx
      have q0 := hc 0 _ rfl
      have q1 := hc 1 _ rfl
      have q2 := hc 2 _ rfl
      have q3 := hc 3 _ rfl
      have q4 := hc 4 _ rfl
      rw [Nat.add_zero] at q0
      rw [← Nat.add_assoc] at q1 q2 q3 q4
      have HY := Lib.hid hy1
      have HO := Lib.hid hown
      have HN2 := Lib.hid hnx
      have hle : w3.heap.size ≤ wr.heap.size := hbw.size
      clear hc hy1 hown hnx
      go_wp2_with fail
      obtain ⟨W1, hW1, hb4, hbx⟩ := one_boxL wr [.slice y.n.h.a y.n.h.vs.length y.n.h.ca, .slice y.n.h.b y.n.h.zs.length y.n.h.cb, .int .i64 y.n.s, .int .i64 y.n.m, .slice y.e y.es.length y.ce] 71
      simp only [List.toArray] at hW1
      rw [hW1]
      clear hW1
      have hB4 := hbw.trans (hb4.mono hbw.size)
      have HO4 := Lib.hid (own_keeps HO.out hb4)
      refine (implNodeText y _ (by omega) (by omega) hel (HY.out _ hB4).1 (HY.out _ hB4).2.1 (HY.out _ hB4).2.2).mono ?_
      rintro e w5 ⟨rfl, hb5⟩
      have HO5 := Lib.hid (own_keeps HO4.out hb5)
      have hbw5 := hB4.trans (hb5.mono hB4.size)
      have hle5 : w3.heap.size ≤ w5.heap.size := hbw5.size
      clear q0 q1 q2 q3 q4 hbx hbw hb4 hB4 hb5
      go_wp2_with (at_builtin; refine wpList_append_own _ rfl (.tmp 29) (.tmp 32) 33 rfl w3.heap.size 9 i0 (.string ⟨#[]⟩) 1 16 Tryz.underlying33 hi hz0 hz1 hz2 rfl (by decide) _ k _ rfl (HO5.out.alloc _) ⟨w5.heap.size, 0, none⟩ 1 1 [.string (nodeST y.n.body y.es)] rfl rfl (oneCell_at _) (oneCell_str _) (by unfold maxLen; omega) (by omega) (Nat.le_trans hle5 (by simp)) ?_; intro v2 w2 hown2 hg2 _; have hb2' := own_below (HO5.out.alloc _) hg2 (Nat.le_trans hle5 (by simp)) (hbw5.alloc hle5 _); clear hg2)
      go_roundw
      case rel => exact ⟨k + 1, by omega, by go_num, by rw [HN2.out, strVals_snoc]; exact hown2, hb2'⟩
      case measure => simp [intOf]; omega
    · obtain rfl : k = ns.length := by omega
      have hrow := OwnIn.row (OwnIn.of hown)
      have hNLn := HNL.out ns.length
      have hBw := (HROW.out _ hbw).2
      clear hown
      rw [← hNLn] at hlc
      have hlc' : (nodesST X.body ns.length).length ≤ lc := hlc
      have hsl : Value.slice la ns.length lc = Value.slice la (nodesST X.body ns.length).length lc := by rw [hNLn]
      go_wp2_with fail
      clear hsl
      refine (implJoin la lc (nodesST X.body ns.length) ⟨#[32]⟩ _ hlc' (by rw [hNLn]; omega) (by rw [hNLn, hsep]; omega) hrow).mono ?_
      rintro e w6 ⟨rfl, hb6⟩
      go_wp2
      go_ret
      exact ⟨by rw [HR.out]; rfl, hBw.trans (hb6.mono hBw.size)⟩
set_option maxHeartbeats 1600000 in
theorem implStText_bad (sa : Option Addr) (sc : Nat) (ss : List ByteArray) (x : St) (w : World) (hs : ss.length ≤ maxLen) (hws : ∀ s ∈ ss, s.size ≤ maxLen) (hrow : Row w w.heap.size sa (strVals ss)) (h : Small x.body) (hcap : x.zs.length ≤ x.cb) (hat : x.At w) (hb : (goodVars ss && stB (ss.length : Int) x.body) = false) :
    Calls Tryz.prog 18 #[.slice sa ss.length sc, x.v] w (GaveX (.string ⟨#[]⟩) w) := by
  have HAT := Lib.hid (fun (W : World) (h : Below w.heap.size w W) => And.intro (hat.below h) ((hrow.below h).grow h.size))
  have hsl := hs
  unfold maxLen at hsl
  clear hat hrow
  go_enter Tryz.func18, Tryz.ntmps18
  go_wp2_with fail
  obtain ⟨W0, hW0, hb0, hs0, hA0⟩ := one_box2 w (.slice x.a x.ns.length x.ca) (.slice x.b x.zs.length x.cb) 27
  rw [hW0]
  clear hW0
  have HA := Lib.hid (fun (W : World) (h : Below W0.heap.size W0 W) => And.intro (hA0.keep hs0 h) (hb0.trans (h.mono hb0.size)))
  clear hA0
  refine (implAreVars sa sc ss _ hs hws (HAT.out _ hb0).2).mono ?_
  rintro e w1 ⟨rfl, hb1⟩
  obtain ⟨⟨c0, c1⟩, hB1⟩ := HA.out _ hb1
  cases hg : goodVars ss with
  | false =>
    clear hb
    go_wp2
    go_ret
    exact ⟨rfl, hB1⟩
  | true =>
    rw [hg, Bool.true_and] at hb
    have HB := Lib.hid hb
    clear hb
    go_wp2_with fail
    refine (implIsStructure (ss.length : Int) x w1 h hcap (HAT.out _ hB1).1).mono ?_
    rw [HB.out]
    rintro e w2 ⟨rfl, hb2⟩
    have hB2 := hB1.trans (hb2.mono hB1.size)
    go_wp2
    go_ret
    exact ⟨rfl, hB2⟩
set_option maxHeartbeats 1600000 in
theorem implStText_nil (sa : Option Addr) (sc : Nat) (ss : List ByteArray) (x : St) (w : World) (hs : ss.length ≤ maxLen) (hws : ∀ s ∈ ss, s.size ≤ maxLen) (hrow : Row w w.heap.size sa (strVals ss)) (h : Small x.body) (hcap : x.zs.length ≤ x.cb) (hat : x.At w) (hg : goodVars ss = true) (hst : stB (ss.length : Int) x.body = true) (h0 : x.ns.length = 0) :
    Calls Tryz.prog 18 #[.slice sa ss.length sc, x.v] w (GaveX (.string ⟨#[45]⟩) w) := by
  have HAT := Lib.hid (fun (W : World) (h : Below w.heap.size w W) => And.intro (hat.below h) ((hrow.below h).grow h.size))
  have hsl := hs
  unfold maxLen at hsl
  have HST := Lib.hid hst
  have HG := Lib.hid hg
  have H0 := Lib.hid h0
  clear hat hrow hst hg h0
  go_enter Tryz.func18, Tryz.ntmps18
  go_wp2_with fail
  obtain ⟨W0, hW0, hb0, hs0, hA0⟩ := one_box2 w (.slice x.a x.ns.length x.ca) (.slice x.b x.zs.length x.cb) 27
  rw [hW0]
  clear hW0
  have HA := Lib.hid (fun (W : World) (h : Below W0.heap.size W0 W) => And.intro (hA0.keep hs0 h) (hb0.trans (h.mono hb0.size)))
  clear hA0
  refine (implAreVars sa sc ss _ hs hws (HAT.out _ hb0).2).mono ?_
  rw [HG.out]
  rintro e w1 ⟨rfl, hb1⟩
  obtain ⟨⟨c0, c1⟩, hB1⟩ := HA.out _ hb1
  go_wp2_with fail
  refine (implIsStructure (ss.length : Int) x w1 h hcap (HAT.out _ hB1).1).mono ?_
  rw [HST.out]
  rintro e w2 ⟨rfl, hb2⟩
  have hb02 := hb1.trans (hb2.mono hb1.size)
  clear c0 c1
  obtain ⟨⟨c0, c1⟩, hB2⟩ := HA.out _ hb02
  have hz : ((x.ns.length : Int) == 0) = true := by rw [H0.out]; rfl
  go_wp2
  go_ret
  exact ⟨rfl, hB2⟩
/-- The program's text of a structure. -/
theorem implStText (sa : Option Addr) (sc : Nat) (ss : List ByteArray) (x : St) (w : World) (hs : ss.length ≤ maxLen) (hws : ∀ s ∈ ss, s.size ≤ maxLen) (hrow : Row w w.heap.size sa (strVals ss)) (h : Small x.body) (hcap : x.zs.length ≤ x.cb) (hat : x.At w) (hP : Pows w) :
    Calls Tryz.prog 18 #[.slice sa ss.length sc, x.v] w (GaveX (.string (stT ss x.body)) w) := by
  have hbn : x.body.1.length = x.ns.length := by simp [St.body]
  cases hh : (goodVars ss && stB (ss.length : Int) x.body) with
  | false =>
    rw [stT_no hh]
    exact implStText_bad sa sc ss x w hs hws hrow h hcap hat hh
  | true =>
    have hh' := hh
    rw [Bool.and_eq_true] at hh'
    by_cases h0 : x.ns.length = 0
    · rw [stT_nil hh (by rw [hbn]; exact h0)]
      exact implStText_nil sa sc ss x w hs hws hrow h hcap hat hh'.1 hh'.2 h0
    · rw [stT_some hh (by rw [hbn]; exact h0), hbn]
      have hpos : 0 < x.ns.length := Nat.pos_of_ne_zero h0
      have hok := stOk hh'.2
      obtain ⟨a, ca, ns, b, cb, zs⟩ := x
      simp only at hpos hcap
      obtain ⟨ba, oa, ha, _, _, _⟩ := hat.nodes.item 0 hpos
      have hz0 : 0 < zs.length := by rw [show zs.length = ns.length * ns.length from hok.sq]; exact Nat.mul_pos hpos hpos
      obtain ⟨bb, ob, hb, _, _⟩ := hat.next 0 _ (intVals_at zs 0 hz0)
      simp only at ha hb
      subst ha hb
      exact implStText_some sa sc ss ba oa ca ns bb ob cb zs _ w hs hws hrow hh'.1 hh'.2 hpos rfl hcap hat h hP
end Go.Proofs.YtglcailcdcpadaaGreatDoor
