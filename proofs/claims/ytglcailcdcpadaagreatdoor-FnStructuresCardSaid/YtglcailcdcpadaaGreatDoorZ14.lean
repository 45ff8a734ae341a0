/-
  Two nodes, two structures compared, by the program and by the model. (Printed by wip/tools/gen_equal_st.py.)
-/
import Derived.Deep.RegionHeld3
import Derived.Test.YtglcailcdcpadaaGreatDoorZ08
import Derived.Test.YtglcailcdcpadaaGreatDoorZ09
namespace Go.Proofs.YtglcailcdcpadaaGreatDoor
open Go Go.RowKit

theorem body_eq (x y : Nd) : decide (x.body = y.body) = (decide (x.h.vs = y.h.vs) && decide (x.h.zs = y.h.zs) && x.s == y.s && x.m == y.m) := by
  rw [Bool.eq_iff_iff]
  simp only [decide_eq_true_eq, Bool.and_eq_true, beq_iff_eq, Nd.body, Hp.body, Prod.mk.injEq]
  exact ⟨fun ⟨⟨a, b⟩, c, d⟩ => ⟨⟨⟨a, b⟩, c⟩, d⟩, fun ⟨⟨⟨a, b⟩, c⟩, d⟩ => ⟨⟨a, b⟩, c, d⟩⟩
set_option maxHeartbeats 1600000 in
theorem implSameNode (x y : Nd) (w : World) (hx : x.h.vs.length ≤ maxLen ∧ x.h.zs.length ≤ maxLen) (hat : x.h.At w) (hbt : y.h.At w) :
    Calls Tryz.prog 41 #[ndC x.h.a x.h.vs.length x.h.ca x.h.b x.h.zs.length x.h.cb x.s x.m, ndC y.h.a y.h.vs.length y.h.ca y.h.b y.h.zs.length y.h.cb y.s y.m] w (GaveX (.bool (decide (x.body = y.body))) w) := by
  have HAT := Lib.hid (fun (W : World) (h : Below w.heap.size w W) => And.intro (hat.below h) (hbt.below h))
  clear hat hbt
  obtain ⟨r, hr⟩ : ∃ r, decide (x.body = y.body) = r := ⟨_, rfl⟩
  rw [hr]
  have HR := Lib.hid (hr.symm.trans (body_eq x y))
  clear hr
  go_enter Tryz.func41, Tryz.ntmps41
  go_wp2_with fail
  obtain ⟨W0, hW0, hb0, hA0, hC0⟩ := two_boxL w [.slice x.h.a x.h.vs.length x.h.ca, .slice x.h.b x.h.zs.length x.h.cb, .int .i64 x.s, .int .i64 x.m] [.slice y.h.a y.h.vs.length y.h.ca, .slice y.h.b y.h.zs.length y.h.cb, .int .i64 y.s, .int .i64 y.m] 56 56
  simp only [List.toArray] at hW0
  rw [hW0]
  clear hW0
  have a1 := hA0.c 1 _ rfl
  have a2 := hA0.c 2 _ rfl
  have a3 := hA0.c 3 _ rfl
  have d1 := hC0.c 1 _ rfl
  have d2 := hC0.c 2 _ rfl
  have d3 := hC0.c 3 _ rfl
  clear hA0 hC0
  refine (equalInts x.h.a y.h.a x.h.ca y.h.ca x.h.vs y.h.vs _ hx.1 (HAT.out _ hb0).1.v (HAT.out _ hb0).2.v).mono ?_
  rintro e w1 ⟨n1, rfl, rfl⟩
  have hB1 : Below w.heap.size w (W0.drewN n1) := below_draws hb0 _
  cases h1 : decide (x.h.vs = y.h.vs) with
  | false =>
    have HE := Lib.hid (show r = false by rw [HR.out, h1]; rfl)
    clear h1
    go_wp2
    go_ret
    exact ⟨by rw [HE.out]; rfl, hB1⟩
  | true =>
    go_wp2_with fail
    refine (equalInts x.h.b y.h.b x.h.cb y.h.cb x.h.zs y.h.zs _ hx.2 (HAT.out _ hB1).1.z (HAT.out _ hB1).2.z).mono ?_
    rintro e w2 ⟨n2, rfl, rfl⟩
    have hB2 := below_draws hB1 n2
    cases h2 : decide (x.h.zs = y.h.zs) with
    | false =>
      have HE := Lib.hid (show r = false by rw [HR.out, h1, h2]; rfl)
      clear h1 h2
      go_wp2
      go_ret
      exact ⟨by rw [HE.out]; rfl, below_draws hb0 _⟩
    | true =>
      cases h3 : (x.s == y.s) with
      | false =>
        have HE := Lib.hid (show r = false by rw [HR.out, h1, h2, h3]; rfl)
        clear h1 h2
        go_wp2
        go_ret
        exact ⟨by rw [HE.out]; rfl, below_draws hb0 _⟩
      | true =>
        have HE := Lib.hid (show r = (x.m == y.m) by rw [HR.out, h1, h2, h3]; rfl)
        clear h1 h2
        go_wp2
        go_ret
        exact ⟨by rw [HE.out]; rfl, below_draws hb0 _⟩
set_option maxHeartbeats 1600000 in
theorem specSameNode (x y : Nd) (w : World) (hx : x.h.vs.length ≤ maxLen ∧ x.h.zs.length ≤ maxLen) (hat : x.h.At w) (hbt : y.h.At w) :
    Calls Tryz.prog 61 #[ndC x.h.a x.h.vs.length x.h.ca x.h.b x.h.zs.length x.h.cb x.s x.m, ndC y.h.a y.h.vs.length y.h.ca y.h.b y.h.zs.length y.h.cb y.s y.m] w (GaveX (.bool (decide (x.body = y.body))) w) := by
  have HAT := Lib.hid (fun (W : World) (h : Below w.heap.size w W) => And.intro (hat.below h) (hbt.below h))
  clear hat hbt
  obtain ⟨r, hr⟩ : ∃ r, decide (x.body = y.body) = r := ⟨_, rfl⟩
  rw [hr]
  have HR := Lib.hid (hr.symm.trans (body_eq x y))
  clear hr
  go_enter Tryz.func61, Tryz.ntmps61
  go_wp2_with fail
  obtain ⟨W0, hW0, hb0, hA0, hC0⟩ := two_boxL w [.slice x.h.a x.h.vs.length x.h.ca, .slice x.h.b x.h.zs.length x.h.cb, .int .i64 x.s, .int .i64 x.m] [.slice y.h.a y.h.vs.length y.h.ca, .slice y.h.b y.h.zs.length y.h.cb, .int .i64 y.s, .int .i64 y.m] 56 56
  simp only [List.toArray] at hW0
  rw [hW0]
  clear hW0
  have a1 := hA0.c 1 _ rfl
  have a2 := hA0.c 2 _ rfl
  have a3 := hA0.c 3 _ rfl
  have d1 := hC0.c 1 _ rfl
  have d2 := hC0.c 2 _ rfl
  have d3 := hC0.c 3 _ rfl
  clear hA0 hC0
  refine (specSameInts x.h.a y.h.a x.h.ca y.h.ca x.h.vs y.h.vs _ hx.1 (HAT.out _ hb0).1.v (HAT.out _ hb0).2.v).mono ?_
  rintro e w1 ⟨n1, rfl, rfl⟩
  have hB1 : Below w.heap.size w (W0.drewN n1) := below_draws hb0 _
  cases h1 : decide (x.h.vs = y.h.vs) with
  | false =>
    have HE := Lib.hid (show r = false by rw [HR.out, h1]; rfl)
    clear h1
    go_wp2
    go_ret
    exact ⟨by rw [HE.out]; rfl, hB1⟩
  | true =>
    go_wp2_with fail
    refine (specSameInts x.h.b y.h.b x.h.cb y.h.cb x.h.zs y.h.zs _ hx.2 (HAT.out _ hB1).1.z (HAT.out _ hB1).2.z).mono ?_
    rintro e w2 ⟨n2, rfl, rfl⟩
    have hB2 := below_draws hB1 n2
    cases h2 : decide (x.h.zs = y.h.zs) with
    | false =>
      have HE := Lib.hid (show r = false by rw [HR.out, h1, h2]; rfl)
      clear h1 h2
      go_wp2
      go_ret
      exact ⟨by rw [HE.out]; rfl, below_draws hb0 _⟩
    | true =>
      cases h3 : (x.s == y.s) with
      | false =>
        have HE := Lib.hid (show r = false by rw [HR.out, h1, h2, h3]; rfl)
        clear h1 h2
        go_wp2
        go_ret
        exact ⟨by rw [HE.out]; rfl, below_draws hb0 _⟩
      | true =>
        have HE := Lib.hid (show r = (x.m == y.m) by rw [HR.out, h1, h2, h3]; rfl)
        clear h1 h2
        go_wp2
        go_ret
        exact ⟨by rw [HE.out]; rfl, below_draws hb0 _⟩

/-- The first k nodes are the same. -/
def SameTo (ns ks : List Nd) (k : Nat) : Prop := (ns.take k).map Nd.body = (ks.take k).map Nd.body
theorem sameTo_next {ns ks : List Nd} {k : Nat} (h : SameTo ns ks k) (hk : k < ns.length) (hk' : k < ks.length) (he : ns[k].body = ks[k].body) : SameTo ns ks (k + 1) := by
  unfold SameTo at *
  rw [take_next ns k hk, take_next ks k hk', List.map_append, List.map_append, h, List.map_singleton, List.map_singleton, he]
theorem sameTo_all {ns ks : List Nd} {k : Nat} (h : SameTo ns ks k) (hk : ns.length ≤ k) (hk' : ks.length ≤ k) : ns.map Nd.body = ks.map Nd.body := by
  unfold SameTo at h
  rwa [List.take_of_length_le hk, List.take_of_length_le hk'] at h
theorem other_body {ns ks : List Nd} {k : Nat} (hk : k < ns.length) (hk' : k < ks.length) (he : ¬ ns[k].body = ks[k].body) : ¬ ns.map Nd.body = ks.map Nd.body := by
  intro h
  apply he
  have h1 : (ns.map Nd.body)[k]? = (ks.map Nd.body)[k]? := by rw [h]
  simpa [hk, hk'] using h1
theorem other_len {ns ks : List Nd} (hl : ¬ ns.length = ks.length) : ¬ ns.map Nd.body = ks.map Nd.body := by
  intro h
  apply hl
  have h1 := congrArg List.length h
  simpa using h1
set_option maxHeartbeats 1600000 in
theorem libEqualNodes (a b : Option Addr) (ca cb : Nat) (ns ks : List Nd) (w : World) (hn : ns.length ≤ maxLen) (hl : ∀ x ∈ ns, x.h.vs.length ≤ maxLen ∧ x.h.zs.length ≤ maxLen) (ha : NodesAt w a ns) (hb : NodesAt w b ks) :
    Calls Tryz.prog 40 #[.slice a ns.length ca, .slice b ks.length cb, .func (.func 41) #[] #[]] w (GaveX (.bool (decide (ns.map Nd.body = ks.map Nd.body))) w) := by
  unfold maxLen at hn
  obtain ⟨r, hr⟩ : ∃ r, decide (ns.map Nd.body = ks.map Nd.body) = r := ⟨_, rfl⟩
  rw [hr]
  have HR := Lib.hid hr
  clear hr
  by_cases hlen : ns.length = ks.length
  · have HLEN := Lib.hid hlen
    have hne : ((ns.length : Int) != (ks.length : Int)) = false := by simp [hlen]
    clear hlen
    go_enter Tryz.func40, Tryz.ntmps40
    go_wp2
    go_loopw [17] (fun i wr => ∃ k : Nat, k ≤ ns.length ∧ i = .int .i64 k ∧ SameTo ns ks k ∧ Below w.heap.size w wr) (fun i _ => ns.length - (intOf i).toNat)
    case atStart => exact ⟨0, Nat.zero_le _, rfl, rfl, Below.refl _ _⟩
    case round =>
      obtain ⟨k, hk, rfl, hsm, hbw⟩ := hrel
      by_cases hlt : k < ns.length
      · have hlt' : k < ks.length := by have := HLEN.out; omega
        obtain ⟨ba, oa, hae, hba, ⟨p0, p1, p2, p3⟩, hx⟩ := (ha.below hbw).item k hlt
        obtain ⟨bb, ob, hbe, hbb, ⟨q0, q1, q2, q3⟩, hy⟩ := (hb.below hbw).item k hlt'
        have hxl := hl _ (List.getElem_mem hlt)
        have HOTHER := Lib.hid (other_body hlt hlt')
        have HNEXT := Lib.hid (sameTo_next hsm hlt hlt')
        generalize ns[k] = x at *
        generalize ks[k] = y at *
        subst hae hbe
        have HA := Lib.hid ha
        have HB := Lib.hid hb
        clear hsm ha hb
        have hc := fun (bx : Obj) (i : Nat) (u : Value) (h : wr.cell? ⟨bb, i, none⟩ = some u) => (((Below.refl wr.heap.size wr).alloc (Nat.le_refl _) bx).cell (p := ⟨bb, i, none⟩) hbb).trans h
        go_wp2_with fail
        obtain ⟨W0, hW0, hb0, hX, hY⟩ := two_boxL wr [.slice x.h.a x.h.vs.length x.h.ca, .slice x.h.b x.h.zs.length x.h.cb, .int .i64 x.s, .int .i64 x.m] [.slice y.h.a y.h.vs.length y.h.ca, .slice y.h.b y.h.zs.length y.h.cb, .int .i64 y.s, .int .i64 y.m] 56 56
        simp only [List.toArray] at hW0
        rw [hW0]
        clear hW0 hc
        refine (implSameNode x y _ hxl (hx.below hb0) (hy.below hb0)).mono ?_
        rintro e w1 ⟨rfl, hb1⟩
        have hB1 := (hbw.trans (hb0.mono hbw.size)).trans (hb1.mono (hbw.trans (hb0.mono hbw.size)).size)
        clear p0 p1 p2 p3 q0 q1 q2 q3 hX hY hx hy
        cases hh : decide (x.body = y.body) with
        | false =>
          have HE := Lib.hid (show r = false by rw [← HR.out]; exact decide_eq_false (HOTHER.out (of_decide_eq_false hh)))
          clear hh
          go_wp2
          go_ret
          exact ⟨by rw [HE.out]; rfl, hB1⟩
        | true =>
          have HE := Lib.hid (HNEXT.out (of_decide_eq_true hh))
          clear hh
          go_wp2
          go_roundw
          case rel => exact ⟨k + 1, by omega, by go_num, HE.out, hB1⟩
          case measure => simp [intOf]; omega
      · have HE := Lib.hid (show r = true by rw [← HR.out]; exact decide_eq_true (sameTo_all hsm (by omega) (by have := HLEN.out; omega)))
        clear hsm
        go_wp2
        go_ret
        exact ⟨by rw [HE.out]; rfl, hbw⟩
  · have HE := Lib.hid (show r = false by rw [← HR.out]; exact decide_eq_false (other_len hlen))
    have hne : ((ns.length : Int) != (ks.length : Int)) = true := bne_iff_ne.2 (by omega)
    clear hlen
    go_enter Tryz.func40, Tryz.ntmps40
    go_wp2
    go_ret
    exact ⟨by rw [HE.out]; rfl, Below.refl _ _⟩
theorem stBody_eq (x y : St) : decide (x.body = y.body) = (decide (x.ns.map Nd.body = y.ns.map Nd.body) && decide (x.zs = y.zs)) := by
  rw [Bool.eq_iff_iff]
  simp only [decide_eq_true_eq, Bool.and_eq_true, St.body, Prod.mk.injEq]
set_option maxHeartbeats 1600000 in
theorem implEqualSt (x y : St) (w : World) (h : Small x.body) (hax : x.At w) (hay : y.At w) :
    Calls Tryz.prog 11 #[x.v, y.v] w (GaveX (.bool (decide (x.body = y.body))) w) := by
  have hm := small_max h
  have HAT := Lib.hid (fun (W : World) (h : Below w.heap.size w W) => And.intro (hax.below h) (hay.below h))
  obtain ⟨r, hr⟩ : ∃ r, decide (x.body = y.body) = r := ⟨_, rfl⟩
  rw [hr]
  have HR := Lib.hid (hr.symm.trans (stBody_eq x y))
  clear hr hax hay h
  go_enter Tryz.func11, Tryz.ntmps11
  go_wp2_with fail
  obtain ⟨W0, hW0, hb0, hs0, hA0, hC0⟩ := two_box2 w (.slice x.a x.ns.length x.ca) (.slice x.b x.zs.length x.cb) (.slice y.a y.ns.length y.ca) (.slice y.b y.zs.length y.cb) 27 27
  rw [hW0]
  clear hW0
  have HA := Lib.hid (fun (W : World) (h : Below W0.heap.size W0 W) => And.intro (hA0.keep (by omega) h) (hC0.keep hs0 h))
  clear hA0 hC0
  refine (libEqualNodes x.a y.a x.ca y.ca x.ns y.ns _ hm.1 hm.2.2 (HAT.out _ hb0).1.nodes (HAT.out _ hb0).2.nodes).mono ?_
  rintro e w1 ⟨rfl, hb1⟩
  have hB1 := hb0.trans (hb1.mono hb0.size)
  obtain ⟨⟨c0, c1⟩, d0, d1⟩ := HA.out _ hb1
  cases h1 : decide (x.ns.map Nd.body = y.ns.map Nd.body) with
  | false =>
    have HE := Lib.hid (show r = false by rw [HR.out, h1]; rfl)
    clear h1
    go_wp2
    go_ret
    exact ⟨by rw [HE.out]; rfl, hB1⟩
  | true =>
    have HE := Lib.hid (show r = decide (x.zs = y.zs) by rw [HR.out, h1]; rfl)
    clear h1
    go_wp2_with fail
    refine (equalInts x.b y.b x.cb y.cb x.zs y.zs _ hm.2.1 (HAT.out _ hB1).1.next (HAT.out _ hB1).2.next).mono ?_
    rintro e w2 ⟨n2, rfl, rfl⟩
    go_wp2
    go_ret
    exact ⟨by rw [HE.out]; rfl, below_draws hB1 _⟩
set_option maxHeartbeats 3200000 in
theorem specEqualSt (x y : St) (w : World) (h : Small x.body) (hax : x.At w) (hay : y.At w) :
    Calls Tryz.prog 20 #[x.v, y.v] w (GaveX (.bool (decide (x.body = y.body))) w) := by
  have hm := small_max h
  have hnl := h.n1
  have HAT := Lib.hid (fun (W : World) (h : Below w.heap.size w W) => And.intro (hax.below h) (hay.below h))
  obtain ⟨r, hr⟩ : ∃ r, decide (x.body = y.body) = r := ⟨_, rfl⟩
  rw [hr]
  have HR := Lib.hid (hr.symm.trans (stBody_eq x y))
  clear hr hax hay h
  obtain ⟨W0, hW0, hb0, hs0, hA0, hC0⟩ := two_box2 w (.slice x.a x.ns.length x.ca) (.slice x.b x.zs.length x.cb) (.slice y.a y.ns.length y.ca) (.slice y.b y.zs.length y.cb) 27 27
  have HA := Lib.hid (fun (W : World) (h : Below W0.heap.size W0 W) => And.intro (And.intro (hA0.keep (by omega) h) (hC0.keep hs0 h)) (hb0.trans (h.mono hb0.size)))
  obtain ⟨c0, c1⟩ := hA0
  obtain ⟨d0, d1⟩ := hC0
  by_cases hlen : x.ns.length = y.ns.length
  · have HLEN := Lib.hid hlen
    have hne : ((x.ns.length : Int) != (y.ns.length : Int)) = false := by simp [hlen]
    clear hlen
    go_enter Tryz.func20, Tryz.ntmps20
    go_wp2_with fail
    clear hW0
    refine (specSameInts x.b y.b x.cb y.cb x.zs y.zs _ hm.2.1 (HAT.out _ hb0).1.next (HAT.out _ hb0).2.next).mono ?_
    rintro e w1 ⟨n1, rfl, rfl⟩
    clear c0 c1 d0 d1
    have hb1 := below_draws (Below.refl W0.heap.size W0) n1
    obtain ⟨⟨⟨c0, c1⟩, d0, d1⟩, hB1⟩ := HA.out _ hb1
    cases h1 : decide (x.zs = y.zs) with
    | false =>
      have HE := Lib.hid (show r = false by rw [HR.out, h1, Bool.and_false])
      clear h1
      go_wp2
      go_ret
      exact ⟨by rw [HE.out]; rfl, hB1⟩
    | true =>
      have HE := Lib.hid (show r = decide (x.ns.map Nd.body = y.ns.map Nd.body) by rw [HR.out, h1, Bool.and_true])
      clear h1 c0 c1 d0 d1
      have c0 := (HA.out _ hb1).1.1.1
      have d0 := (HA.out _ hb1).1.2.1
      go_wp2_with fail
      go_loopw [5] (fun i wr => ∃ k : Nat, k ≤ x.ns.length ∧ i = .int .i64 k ∧ SameTo x.ns y.ns k ∧ Below W0.heap.size W0 wr) (fun i _ => x.ns.length - (intOf i).toNat)
      case atStart => exact ⟨0, Nat.zero_le _, rfl, rfl, hb1⟩
      case round =>
        clear c0 d0
        obtain ⟨k, hk, rfl, hsm, hbw⟩ := hrel
        have c0 := (HA.out _ hbw).1.1.1
        have hBw := (HA.out _ hbw).2
        by_cases hlt : k < x.ns.length
        · have hlt' : k < y.ns.length := by have := HLEN.out; omega
          obtain ⟨ba, oa, hae, hba, _, _⟩ := (HAT.out _ hBw).1.nodes.item k hlt
          obtain ⟨bb, ob, hbe, hbb, _, _⟩ := (HAT.out _ hBw).2.nodes.item k hlt'
          have hxl := hm.2.2 _ (List.getElem_mem hlt)
          have HOTHER := Lib.hid (other_body hlt hlt')
          have HNEXT := Lib.hid (sameTo_next hsm hlt hlt')
          have hI : ∀ W, Below W0.heap.size W0 W → ((W.cell? ⟨w.heap.size, 0, none⟩ = some (.slice (some ⟨ba, oa, none⟩) x.ns.length x.ca) ∧ W.cell? ⟨w.heap.size + 1, 0, none⟩ = some (.slice (some ⟨bb, ob, none⟩) y.ns.length y.ca)) ∧ NdItem W ba oa k x.ns[k] ∧ NdItem W bb ob k y.ns[k]) ∧ x.ns[k].h.At W ∧ y.ns[k].h.At W := by
            intro W hW
            obtain ⟨b1, o1, e1, _, i1, t1⟩ := (HAT.out _ (HA.out _ hW).2).1.nodes.item k hlt
            obtain ⟨b2, o2, e2, _, i2, t2⟩ := (HAT.out _ (HA.out _ hW).2).2.nodes.item k hlt'
            rw [hae] at e1
            rw [hbe] at e2
            injection e1 with e1
            injection e1 with e1 e1' _
            injection e2 with e2
            injection e2 with e2 e2' _
            subst e1 e1' e2 e2'
            exact ⟨⟨⟨by rw [← hae]; exact (HA.out _ hW).1.1.1, by rw [← hbe]; exact (HA.out _ hW).1.2.1⟩, i1, i2⟩, t1, t2⟩
          have hnk : k < x.ns.length := hlt
          generalize x.ns[k] = u at *
          generalize y.ns[k] = v at *
          have HI := Lib.hid hI
          clear hI hsm hae hbe
          go_wp2_with fail
          go_region_held3 (fun W => (W.cell? ⟨w.heap.size, 0, none⟩ = some (.slice (some ⟨ba, oa, none⟩) x.ns.length x.ca) ∧ W.cell? ⟨w.heap.size + 1, 0, none⟩ = some (.slice (some ⟨bb, ob, none⟩) y.ns.length y.ca)) ∧ (W.cell? ⟨ba, oa + k * 4, none⟩ = some (.slice u.h.a u.h.vs.length u.h.ca) ∧ W.cell? ⟨ba, oa + k * 4 + 1, none⟩ = some (.slice u.h.b u.h.zs.length u.h.cb) ∧ W.cell? ⟨ba, oa + k * 4 + 2, none⟩ = some (.int .i64 u.s) ∧ W.cell? ⟨ba, oa + k * 4 + 3, none⟩ = some (.int .i64 u.m)) ∧ (W.cell? ⟨bb, ob + k * 4, none⟩ = some (.slice v.h.a v.h.vs.length v.h.ca) ∧ W.cell? ⟨bb, ob + k * 4 + 1, none⟩ = some (.slice v.h.b v.h.zs.length v.h.cb) ∧ W.cell? ⟨bb, ob + k * 4 + 2, none⟩ = some (.int .i64 v.s) ∧ W.cell? ⟨bb, ob + k * 4 + 3, none⟩ = some (.int .i64 v.m)))
            (first | with_reducible exact (HI.out _ (Below.drew hbw)).1 | with_reducible exact (HI.out _ hB2).1)
            (first | (go_at_call 61; (with_reducible refine (specSameNode u v _ hxl (HI.out _ (Below.drew hbw)).2.1 (HI.out _ (Below.drew hbw)).2.2).mono ?_); rintro e w2 ⟨rfl, hb2⟩; have hB2 := (Below.drew hbw).trans (hb2.mono (Below.drew hbw).size)))
          have hBB := (HA.out _ hB2).2
          clear c0
          cases hh : decide (u.body = v.body) with
          | false =>
            have HF := Lib.hid (show r = false by rw [HE.out]; exact decide_eq_false (HOTHER.out (of_decide_eq_false hh)))
            clear hh
            go_wp2
            go_ret
            exact ⟨by rw [HF.out]; rfl, hBB⟩
          | true =>
            have HF := Lib.hid (HNEXT.out (of_decide_eq_true hh))
            clear hh
            go_wp2
            go_roundw
            case rel => exact ⟨k + 1, by omega, by go_num, HF.out, hB2⟩
            case measure => simp [intOf]; omega
        · have HF := Lib.hid (show r = true by rw [HE.out]; exact decide_eq_true (sameTo_all hsm (by omega) (by have := HLEN.out; omega)))
          clear hsm
          go_wp2
          go_ret
          exact ⟨by rw [HF.out]; rfl, hBw⟩
  · have HE := Lib.hid (show r = false by rw [HR.out, decide_eq_false (other_len hlen)]; rfl)
    have hne : ((x.ns.length : Int) != (y.ns.length : Int)) = true := bne_iff_ne.2 (by omega)
    clear hlen
    go_enter Tryz.func20, Tryz.ntmps20
    go_wp2
    go_ret
    exact ⟨by rw [HE.out]; rfl, hb0⟩
end Go.Proofs.YtglcailcdcpadaaGreatDoor
