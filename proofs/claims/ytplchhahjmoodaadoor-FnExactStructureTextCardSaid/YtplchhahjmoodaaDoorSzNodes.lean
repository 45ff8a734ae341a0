/-
  The law's size guard over nodes and structures, and its comparison of two structures that hold the same.
-/
import Derived.Test.YtplchhahjmoodaaDoorNodes
import Derived.Test.YtplchhahjmoodaaDoorEqInts
import Derived.Deep.RegionHeld3
namespace Go.Proofs.YtplchhahjmoodaaDoor
open Go Go.RowKit

theorem szNode (a b : Option Addr) (ca cb n m : Nat) (s q : Int) (left : Nat) (w : World) (hl : left ≤ 1099511627776) (hn : n ≤ maxLen) (hm : m ≤ maxLen) :
    Calls Tryd.prog 55 #[ndC a n ca b m cb s q, .int .i64 left] w fun e w' => ∃ r : Int, e = .returned (.int .i64 r) ∧ Below w.heap.size w w' ∧ r ≤ left ∧ (0 ≤ r → (n : Int) + m + r = left) := by
  go_enter Tryd.func55, Tryd.ntmps55
  go_wp2_with fail
  obtain ⟨W0, hW0, hb0, hA0⟩ := one_boxL w [.slice a n ca, .slice b m cb, .int .i64 s, .int .i64 q] 85
  simp only [List.toArray] at hW0
  rw [hW0]
  clear hW0
  have c0 := hA0.c 0 _ rfl
  have c1 := hA0.c 1 _ rfl
  clear hA0
  refine (szInts a ca n left _ hl hn).mono ?_
  rintro e w1 ⟨r, rfl, rfl, hr, hok⟩
  by_cases hneg : r < 0
  · go_wp2
    go_ret
    exact ⟨-1, rfl, hb0, by omega, fun h => by omega⟩
  · obtain ⟨r', rfl⟩ : ∃ r' : Nat, r = (r' : Int) := ⟨r.toNat, by omega⟩
    have Hok := Lib.hid (hok (by omega))
    clear hok
    go_wp2_with fail
    refine (szInts b cb m r' _ (by omega) hm).mono ?_
    rintro e w1 ⟨r2, rfl, rfl, hr2, hok2⟩
    have Hok2 := Lib.hid hok2
    clear hok2
    by_cases hneg2 : r2 < 0
    · go_wp2
      go_ret
      exact ⟨-1, rfl, hb0, by omega, fun h => by omega⟩
    · go_wp2
      go_ret
      have h1 := Hok.out
      exact ⟨r2, rfl, hb0, by omega, fun h => by have h2 := Hok2.out h; omega⟩

/-- The guard's answer over a row of nodes. -/
def SzNodesEnd (ns : List Nd) (left : Nat) (w : World) (e : Ending) (w' : World) : Prop :=
  ∃ r : Int, e = .returned (.int .i64 r) ∧ Below w.heap.size w w' ∧ r ≤ left ∧ (0 ≤ r → (ns.length : Int) + ndTotal ns + r = left)
set_option maxHeartbeats 800000 in
theorem szNodes (a : Option Addr) (cap : Nat) (ns : List Nd) (left : Nat) (w : World) (hl : left ≤ 1099511627776) (hlen : ns.length ≤ maxLen) (hws : ∀ x ∈ ns, x.h.vs.length ≤ maxLen ∧ x.h.zs.length ≤ maxLen) (hrow : NodesAt w a ns) :
    Calls Tryd.prog 27 #[.slice a ns.length cap, .int .i64 left] w (SzNodesEnd ns left w) := by
  unfold maxLen at hlen
  by_cases h0 : left < ns.length
  · have hb : (left : Int) - ns.length < 0 := by omega
    go_enter Tryd.func27, Tryd.ntmps27
    go_wp2
    go_ret
    exact ⟨-1, rfl, Below.refl _ _, by omega, fun h => by omega⟩
  · have hb : ¬ (left : Int) - ns.length < 0 := by omega
    go_enter Tryd.func27, Tryd.ntmps27
    go_wp2
    go_loopw [1, 5] (fun l i wr => ∃ k m : Nat, k ≤ ns.length ∧ i = .int .i64 k ∧ l = .int .i64 m ∧ ns.length + ndTotal (ns.take k) + m = left ∧ Below w.heap.size w wr) (fun _ i _ => ns.length - (intOf i).toNat)
    case atStart => exact ⟨0, left - ns.length, Nat.zero_le _, rfl, by congr 1; omega, by simp [ndTotal]; omega, Below.refl _ _⟩
    case round =>
      obtain ⟨k, m, hk, rfl, rfl, hsum, hb⟩ := hrel
      by_cases hlt : k < ns.length
      · obtain ⟨b, o, rfl, hbW, ⟨c0, c1, c2, c3⟩, hat⟩ := (hrow.below hb).item k hlt
        have hok := hws ns[k] (List.getElem_mem hlt)
        have hnx := ndTotal_next ns k hlt
        generalize ns[k] = x at *
        have Hsum := Lib.hid hsum
        have Hnx := Lib.hid hnx
        have hm : m ≤ 1099511627776 := by omega
        clear hsum hnx hat
        go_wp2_with fail
        refine (szNode x.h.a x.h.b x.h.ca x.h.cb _ _ x.s x.m m _ hm hok.1 hok.2).mono ?_
        rintro e w1 ⟨r, rfl, hb1, hr, hsz⟩
        have hB := hb.trans (hb1.mono hb.size)
        have Hsz := Lib.hid hsz
        clear hsz c0 c1 c2 c3
        by_cases hneg : r < 0
        · go_wp2
          go_ret
          exact ⟨-1, rfl, hB, by omega, fun h => by omega⟩
        · obtain ⟨r', rfl⟩ : ∃ r' : Nat, r = (r' : Int) := ⟨r.toNat, by omega⟩
          go_wp2
          go_roundw
          case rel =>
            have h1 := Hsum.out
            have h2 := Hnx.out
            have h3 := Hsz.out (by omega)
            exact ⟨k + 1, r', by omega, by go_num, rfl, by simp only [ndSize, hpSize] at h2; omega, hB⟩
          case measure => simp [intOf]; omega
      · have hk' : k = ns.length := by omega
        have Hk := Lib.hid hk'
        have Hsum := Lib.hid hsum
        clear hk' hsum
        go_wp2
        go_ret
        have h1 := Hsum.out
        rw [Hk.out, List.take_length] at h1
        exact ⟨m, rfl, hb, by omega, fun _ => by omega⟩
/-- .. over a structure. -/
def SzStEnd (x : St) (left : Nat) (w : World) (e : Ending) (w' : World) : Prop :=
  ∃ r : Int, e = .returned (.int .i64 r) ∧ Below w.heap.size w w' ∧ r ≤ left ∧ (0 ≤ r → (stSize x : Int) + r = left)
set_option maxHeartbeats 800000 in
theorem szStructure (x : St) (left : Nat) (w : World) (hl : left ≤ 1099511627776) (hok : x.Ok w) :
    Calls Tryd.prog 14 #[x.v, .int .i64 left] w (SzStEnd x left w) := by
  have hws : ∀ y ∈ x.ns, y.h.vs.length ≤ maxLen ∧ y.h.zs.length ≤ maxLen := fun y hy => ⟨(hok.each y hy).h.lv, (hok.each y hy).h.lz⟩
  have hln := hok.ln
  have hlz := hok.lz
  have hat := hok.at_
  clear hok
  obtain ⟨a, ca, ns, b, cb, zs⟩ := x
  simp only at hws hln hlz
  go_enter Tryd.func14, Tryd.ntmps14
  go_wp2_with fail
  obtain ⟨W0, hW0, hb0, hs0, hA0⟩ := one_box2 w (.slice a ns.length ca) (.slice b zs.length cb) 37
  rw [hW0]
  clear hW0
  have hN : NodesAt W0 a ns := (hat.below hb0).nodes
  have HA := Lib.hid (fun (W : World) (h : Below W0.heap.size W0 W) => hA0.keep hs0 h)
  clear hat hA0
  refine (szNodes a ca ns left _ hl hln hws hN).mono ?_
  rintro e w1 ⟨r, rfl, hb1, hr, hok⟩
  obtain ⟨c0, c1⟩ := HA.out _ hb1
  have hB1 := hb0.trans (hb1.mono hb0.size)
  by_cases hneg : r < 0
  · go_wp2
    go_ret
    exact ⟨-1, rfl, hB1, by omega, fun h => by omega⟩
  · obtain ⟨r', rfl⟩ : ∃ r' : Nat, r = (r' : Int) := ⟨r.toNat, by omega⟩
    have Hok := Lib.hid (hok (by omega))
    clear hok
    go_wp2_with fail
    refine (szInts b cb zs.length r' _ (by omega) hlz).mono ?_
    rintro e w1 ⟨r2, rfl, rfl, hr2, hok2⟩
    have Hok2 := Lib.hid hok2
    clear hok2
    by_cases hneg2 : r2 < 0
    · go_wp2
      go_ret
      exact ⟨-1, rfl, hB1, by omega, fun h => by omega⟩
    · go_wp2
      go_ret
      have h1 := Hok.out
      exact ⟨r2, rfl, hB1, by omega, fun h => by have h2 := Hok2.out h; simp only [stSize]; omega⟩

/-- Two nodes that hold the same compare as equal. -/
theorem eqNodes (a b c d : Option Addr) (ca cb cc cd : Nat) (vs zs : List Int) (s q : Int) (w : World) (hn : vs.length ≤ maxLen) (hm : zs.length ≤ maxLen) (h : HeapAt w a b vs zs) (h' : HeapAt w c d vs zs) :
    Calls Tryd.prog 74 #[ndC a vs.length ca b zs.length cb s q, ndC c vs.length cc d zs.length cd s q] w (GaveX (.bool true) w) := by
  have key : ∀ W, Below w.heap.size w W → HeapAt W a b vs zs ∧ HeapAt W c d vs zs := fun W hb => ⟨h.below hb (Nat.le_refl _), h'.below hb (Nat.le_refl _)⟩
  go_enter Tryd.func74, Tryd.ntmps74
  go_wp2_with fail
  obtain ⟨W0, hW0, hb0, hA0, hC0⟩ := two_boxL w [.slice a vs.length ca, .slice b zs.length cb, .int .i64 s, .int .i64 q] [.slice c vs.length cc, .slice d zs.length cd, .int .i64 s, .int .i64 q] 66 66
  simp only [List.toArray] at hW0
  rw [hW0]
  clear hW0
  have c0 := hA0.c 0 _ rfl
  have c1 := hA0.c 1 _ rfl
  have c2 := hA0.c 2 _ rfl
  have c3 := hA0.c 3 _ rfl
  have d0 := hC0.c 0 _ rfl
  have d1 := hC0.c 1 _ rfl
  have d2 := hC0.c 2 _ rfl
  have d3 := hC0.c 3 _ rfl
  clear hA0 hC0
  refine (eqInts a c ca cc vs _ hn (key _ hb0).1.v (key _ hb0).2.v).mono ?_
  rintro e w1 ⟨n1, rfl, rfl⟩
  have hB1 : Below w.heap.size w (W0.drewN n1) := below_draws hb0 _
  go_wp2_with fail
  refine (eqInts b d cb cd zs _ hm (key _ hB1).1.z (key _ hB1).2.z).mono ?_
  rintro e w2 ⟨n2, rfl, rfl⟩
  go_wp2
  go_ret
  exact ⟨rfl, below_draws hb0 _⟩
set_option maxHeartbeats 800000 in
theorem eqNodeRows (a b : Option Addr) (ca cb : Nat) (ns ks : List Nd) (w : World) (hn : ns.length ≤ maxLen) (hl : ∀ x ∈ ns, x.h.vs.length ≤ maxLen ∧ x.h.zs.length ≤ maxLen) (hbd : ks.map Nd.body = ns.map Nd.body) (ha : NodesAt w a ns) (hb : NodesAt w b ks) :
    Calls Tryd.prog 40 #[.slice a ns.length ca, .slice b ks.length cb] w (GaveX (.bool true) w) := by
  unfold maxLen at hn
  have hkl : ks.length = ns.length := by
    have h1 := congrArg List.length hbd
    simpa using h1
  rw [hkl]
  go_enter Tryd.func40, Tryd.ntmps40
  go_wp2
  go_loopw [5] (fun i wr => ∃ k : Nat, k ≤ ns.length ∧ i = .int .i64 k ∧ Below w.heap.size w wr) (fun i _ => ns.length - (intOf i).toNat)
  case atStart => exact ⟨0, Nat.zero_le _, rfl, Below.refl _ _⟩
  case round =>
    obtain ⟨k, hk, rfl, hbw⟩ := hrel
    by_cases hlt : k < ns.length
    · have hlk : k < ks.length := by omega
      obtain ⟨ba, oa, rfl, hba, _, _⟩ := ha.item k hlt
      obtain ⟨bb, ob, rfl, hbb, _, _⟩ := hb.item k hlk
      have hx := hl ns[k] (List.getElem_mem hlt)
      have he : ks[k].body = ns[k].body := by
        have h1 : (ks.map Nd.body)[k]? = (ns.map Nd.body)[k]? := by rw [hbd]
        simpa [hlt, hlk] using h1
      have hA := fun W h => (ha.below (W' := W) h).item k hlt
      have hB := fun W h => (hb.below (W' := W) h).item k hlk
      generalize ns[k] = x at *
      generalize ks[k] = y at *
      obtain ⟨⟨ya, yca, yb, ycb, yv, yz⟩, ys, ym⟩ := y
      obtain ⟨⟨xa, xca, xb, xcb, xv, xz⟩, xs, xm⟩ := x
      simp only [Nd.body, Hp.body, Prod.mk.injEq] at he
      obtain ⟨⟨rfl, rfl⟩, rfl, rfl⟩ := he
      have hS : ∀ W, Below w.heap.size w W → NdItem W ba oa k ⟨⟨xa, xca, xb, xcb, yv, yz⟩, ys, ym⟩ ∧ NdItem W bb ob k ⟨⟨ya, yca, yb, ycb, yv, yz⟩, ys, ym⟩ := by
        intro W h
        obtain ⟨b1, o1, e1, _, p0, _⟩ := hA W h
        obtain ⟨b2, o2, e2, _, q0, _⟩ := hB W h
        injection e1 with e1
        injection e1 with e1 e1' _
        injection e2 with e2
        injection e2 with e2 e2' _
        subst e1 e1' e2 e2'
        exact ⟨p0, q0⟩
      have hR : ∀ W, Below w.heap.size w W → HeapAt W xa xb yv yz ∧ HeapAt W ya yb yv yz := fun W h => by
        obtain ⟨_, _, _, _, _, p⟩ := hA W h
        obtain ⟨_, _, _, _, _, q⟩ := hB W h
        exact ⟨p, q⟩
      have HS := Lib.hid hS
      have HR := Lib.hid hR
      have HA := Lib.hid ha
      have HB := Lib.hid hb
      clear hA hB hS hR ha hb hbd
      go_wp2_with fail
      go_region_held3 (fun W => (W.cell? ⟨ba, oa + k * 4, none⟩ = some (.slice xa yv.length xca) ∧ W.cell? ⟨ba, oa + k * 4 + 1, none⟩ = some (.slice xb yz.length xcb) ∧ W.cell? ⟨ba, oa + k * 4 + 2, none⟩ = some (.int .i64 ys) ∧ W.cell? ⟨ba, oa + k * 4 + 3, none⟩ = some (.int .i64 ym)) ∧ (W.cell? ⟨bb, ob + k * 4, none⟩ = some (.slice ya yv.length yca) ∧ W.cell? ⟨bb, ob + k * 4 + 1, none⟩ = some (.slice yb yz.length ycb) ∧ W.cell? ⟨bb, ob + k * 4 + 2, none⟩ = some (.int .i64 ys) ∧ W.cell? ⟨bb, ob + k * 4 + 3, none⟩ = some (.int .i64 ym)))
        (first | with_reducible exact HS.out _ (Below.drew hbw) | with_reducible exact HS.out _ hB1)
        (first | (go_at_call 74; (with_reducible refine (eqNodes xa xb ya yb xca xcb yca ycb yv yz ys ym _ hx.1 hx.2 (HR.out _ (Below.drew hbw)).1 (HR.out _ (Below.drew hbw)).2).mono ?_); rintro e w1 ⟨rfl, hb1⟩; have hB1 := (Below.drew hbw).trans (hb1.mono (Below.drew hbw).size)))
      go_wp2
      go_roundw
      case rel => exact ⟨k + 1, by omega, by go_num, hB1⟩
      case measure => simp [intOf]; omega
    · go_wp2
      go_ret
      exact ⟨rfl, hbw⟩
set_option maxHeartbeats 800000 in
theorem eqStructures (x y : St) (w : World) (hok : x.ns.length ≤ maxLen ∧ x.zs.length ≤ maxLen ∧ ∀ z ∈ x.ns, z.h.vs.length ≤ maxLen ∧ z.h.zs.length ≤ maxLen) (hbd : y.body = x.body) (hx : x.At w) (hy : y.At w) :
    Calls Tryd.prog 18 #[x.v, y.v] w (GaveX (.bool true) w) := by
  obtain ⟨a, ca, ns, b, cb, zs⟩ := x
  obtain ⟨c, cc, ks, d, cd, us⟩ := y
  obtain ⟨hln, hlz, hws⟩ := hok
  simp only [St.body, Prod.mk.injEq] at hbd
  obtain ⟨hbd, rfl⟩ := hbd
  simp only at hln hlz hws
  go_enter Tryd.func18, Tryd.ntmps18
  go_wp2_with fail
  obtain ⟨W0, hW0, hb0, hs0, hA0, hC0⟩ := two_box2 w (.slice a ns.length ca) (.slice b us.length cb) (.slice c ks.length cc) (.slice d us.length cd) 42 42
  rw [hW0]
  clear hW0
  have HX := Lib.hid (fun (W : World) (h : Below w.heap.size w W) => And.intro (hx.below h) (hy.below h))
  have HA := Lib.hid (fun (W : World) (h : Below W0.heap.size W0 W) => And.intro (hA0.keep (by omega) h) (hC0.keep hs0 h))
  clear hx hy hA0 hC0
  refine (eqNodeRows a c ca cc ns ks _ hln hws hbd (HX.out _ hb0).1.nodes (HX.out _ hb0).2.nodes).mono ?_
  rintro e w1 ⟨rfl, hb1⟩
  obtain ⟨⟨c0, c1⟩, c2, c3⟩ := HA.out _ hb1
  have hB1 := hb0.trans (hb1.mono hb0.size)
  have HBD := Lib.hid hbd
  clear hbd
  go_wp2_with fail
  refine (eqInts b d cb cd us _ hlz (HX.out _ hB1).1.next (HX.out _ hB1).2.next).mono ?_
  rintro e w2 ⟨n2, rfl, rfl⟩
  go_wp2
  go_ret
  exact ⟨rfl, below_draws hB1 _⟩
end Go.Proofs.YtplchhahjmoodaaDoor
