/-
  The model's Exec.
-/
import Derived.Deep.RegionHeld3
import Derived.Test.YtpmmjaceehlpiaaGreatDoorR17
import Derived.Test.YtpmmjaceehlpiaaGreatDoorR07
import Derived.Test.YtpmmjaceehlpiaaGreatDoorR08
import Derived.Test.YtpmmjaceehlpiaaGreatDoorR20
import Derived.Test.YtpmmjaceehlpiaaGreatDoorR16
import Derived.Test.YtpmmjaceehlpiaaGreatDoorR15
namespace Go.Proofs.YtpmmjaceehlpiaaGreatDoor
open Go Go.RowKit Go.ChangeShapes Go.WideShapes Go.ChangeAt Go.Sort

theorem exec_do {ss : List ByteArray} {k c : Int} {a b : ByteArray} {vs zs : List Int} (h1 : stmtB ss k a b = true) (h2 : heapB (ss.length : Int) vs zs = true) (h : doS k (place ss a).toNat (place ss b).toNat vs zs = badC c) (hc : ¬ c = 0) : execS ss k a b vs zs = badC c :=
  exec_code h1 h2 h hc
/-- .. met in a region that draws its order: GaveB. -/
theorem atB_again {P : Program} {f : FuncId} {args : Array Value} {w : World} {d : Nat} {os : Array Obj} {v : Value} (h : Calls P f args (grow (redrawn w d) os) (GaveB v (grow (redrawn w d) os))) :
    Calls P f args (grow (redrawn w d) os) fun e w'' => e = .returned v ∧ ∃ p : Regrown, w'' = grow (redrawn w p.d) p.os := Calls.regrown_of h
theorem sameW_again {P : Program} {f : FuncId} {args : Array Value} {w : World} {d : Nat} {os : Array Obj} {v : Value} (h : Calls P f args (grow (redrawn w d) os) (fun e w' => e = .returned v ∧ grow (redrawn w d) os = w')) :
    Calls P f args (grow (redrawn w d) os) fun e w'' => e = .returned v ∧ ∃ p : Regrown, w'' = grow (redrawn w p.d) p.os :=
  h.mono fun _ _ k => ⟨k.1, ⟨d, os⟩, k.2.symm⟩

/-- What stands behind the test; what stands behind the action. What is read no more: any values. -/
def frame5 (va : Option Addr) (vc : Nat) (ss : List ByteArray) (k : Int) (sa sb : ByteArray) (a b : Option Addr) (ca cb : Nat) (vs zs : List Int) (B pa pb : Nat) (bl : Bool) (u12 u13 u14 u15 u16 u17 u18 u19 u20 u21 u22 u23 u24 u25 u26 u27 u28 u29 u30 u31 u32 u33 u35 u36 u37 u38 u39 u40 u41 u42 u43 u44 u45 u46 u47 u48 u49 u50 u51 u52 : Value) : Act :=
  { tmps := #[.slice va ss.length vc, stV k sa sb, heV a vs.length ca b zs.length cb, undef, .pointer (some ⟨B, 0, none⟩), .pointer (some ⟨B + 1, 0, none⟩), .pointer (some ⟨B + 1 + 1, 0, none⟩), .int .i64 0, .int .i64 (pa : Int), .int .i64 (pb : Int), undef, undef, u12, u13, u14, u15, u16, u17, u18, u19, u20, u21, u22, u23, u24, u25, u26, u27, u28, u29, u30, u31, u32, u33, .bool bl, u35, u36, u37, u38, u39, u40, u41, u42, u43, u44, u45, u46, u47, u48, u49, u50, u51, u52, undef, undef, undef, undef, undef, undef, undef, undef, undef, undef, undef, undef, undef, undef, undef, undef, undef, undef, undef, undef, undef, undef, undef, undef, undef, undef, undef, undef, undef, undef, undef, undef, undef, undef, undef, undef, undef], defers := [] }
def After5 (va : Option Addr) (vc : Nat) (ss : List ByteArray) (k : Int) (sa sb : ByteArray) (a b : Option Addr) (ca cb : Nat) (vs zs : List Int) (B pa pb : Nat) (bl : Bool) (w2 : World) (e : Exit) (act : Act) (W : World) : Prop :=
  e = .normal ∧ ∃ u12 u13 u14 u15 u16 u17 u18 u19 u20 u21 u22 u23 u24 u25 u26 u27 u28 u29 u30 u31 u32 u33 u35 u36 u37 u38 u39 u40 u41 u42 u43 u44 u45 u46 u47 u48 u49 u50 u51 u52, act = frame5 va vc ss k sa sb a b ca cb vs zs B pa pb bl u12 u13 u14 u15 u16 u17 u18 u19 u20 u21 u22 u23 u24 u25 u26 u27 u28 u29 u30 u31 u32 u33 u35 u36 u37 u38 u39 u40 u41 u42 u43 u44 u45 u46 u47 u48 u49 u50 u51 u52 ∧ Below w2.heap.size w2 W
def frame11 (va : Option Addr) (vc : Nat) (ss : List ByteArray) (k : Int) (sa sb : ByteArray) (a b : Option Addr) (ca cb : Nat) (vs zs : List Int) (B pa pb : Nat) (c9 : Int) (R : Nat) (u12 u13 u14 u15 u16 u17 u18 u19 u20 u21 u22 u23 u24 u25 u26 u27 u28 u29 u30 u31 u32 u33 u34 u35 u36 u37 u38 u39 u40 u41 u42 u43 u44 u45 u46 u47 u48 u49 u50 u51 u52 u53 u54 u55 u56 u57 u58 u59 u60 u61 u62 u63 u64 u65 u66 u67 u68 u69 u70 u71 u72 u73 u74 u75 u76 u77 u78 u79 u80 : Value) : Act :=
  { tmps := #[.slice va ss.length vc, stV k sa sb, heV a vs.length ca b zs.length cb, undef, .pointer (some ⟨B, 0, none⟩), .pointer (some ⟨B + 1, 0, none⟩), .pointer (some ⟨B + 1 + 1, 0, none⟩), .int .i64 0, .int .i64 (pa : Int), .int .i64 (pb : Int), .pointer (some ⟨R, 0, none⟩), .int .i64 c9, u12, u13, u14, u15, u16, u17, u18, u19, u20, u21, u22, u23, u24, u25, u26, u27, u28, u29, u30, u31, u32, u33, u34, u35, u36, u37, u38, u39, u40, u41, u42, u43, u44, u45, u46, u47, u48, u49, u50, u51, u52, u53, u54, u55, u56, u57, u58, u59, u60, u61, u62, u63, u64, u65, u66, u67, u68, u69, u70, u71, u72, u73, u74, u75, u76, u77, u78, u79, u80, undef, undef, undef, undef, undef, undef, undef, undef, undef], defers := [] }
def After11 (va : Option Addr) (vc : Nat) (ss : List ByteArray) (k : Int) (sa sb : ByteArray) (a b : Option Addr) (ca cb : Nat) (vs zs : List Int) (B pa pb : Nat) (c9 : Int) (w : World) (us ys : List Int) (e : Exit) (act : Act) (W : World) : Prop :=
  e = .normal ∧ ∃ R xa xca xb xcb u12 u13 u14 u15 u16 u17 u18 u19 u20 u21 u22 u23 u24 u25 u26 u27 u28 u29 u30 u31 u32 u33 u34 u35 u36 u37 u38 u39 u40 u41 u42 u43 u44 u45 u46 u47 u48 u49 u50 u51 u52 u53 u54 u55 u56 u57 u58 u59 u60 u61 u62 u63 u64 u65 u66 u67 u68 u69 u70 u71 u72 u73 u74 u75 u76 u77 u78 u79 u80, act = frame11 va vc ss k sa sb a b ca cb vs zs B pa pb c9 R u12 u13 u14 u15 u16 u17 u18 u19 u20 u21 u22 u23 u24 u25 u26 u27 u28 u29 u30 u31 u32 u33 u34 u35 u36 u37 u38 u39 u40 u41 u42 u43 u44 u45 u46 u47 u48 u49 u50 u51 u52 u53 u54 u55 u56 u57 u58 u59 u60 u61 u62 u63 u64 u65 u66 u67 u68 u69 u70 u71 u72 u73 u74 u75 u76 u77 u78 u79 u80 ∧ Own4 w W R xa xca xb xcb us ys
theorem specCopyL (a b : Option Addr) (ca cb : Nat) (vs zs : List Int) (w : World) (hna : a = none → ca = 0) (hnb : b = none → cb = 0) (hr : HeapAt w a b vs zs) (hl : vs.length ≤ 100) (he : zs.length ≤ 100) :
    Calls Tryz.prog 57 #[heV a vs.length ca b zs.length cb] w fun e w' => ∃ lo a ca b cb, lo = w.heap.size ∧ e = .returned (heV a vs.length ca b zs.length cb) ∧ HeapIn lo w'.heap.size w' a ca b cb (intVals vs) (intVals zs) ∧ Below w.heap.size w w' :=
  (specCopy a b ca cb vs zs w hna hnb hr hl he).mono fun _ _ ⟨a, ca, b, cb, h1, h2, h3⟩ => ⟨_, a, ca, b, cb, rfl, h1, h2, h3⟩

set_option maxRecDepth 100000 in
set_option maxHeartbeats 8000000 in
theorem specExec (va : Option Addr) (vc : Nat) (ss : List ByteArray) (k : Int) (sa sb : ByteArray) (a b : Option Addr) (ca cb : Nat) (vs zs : List Int) (w : World) (hlen : ss.length ≤ maxLen) (hws : ∀ s ∈ ss, s.size ≤ maxLen) (hrow : Row w w.heap.size va (strVals ss))
    (hv : vs.length ≤ maxLen) (hz : zs.length ≤ maxLen) (h : HeapAt w a b vs zs) (hna : a = none → ca = 0) (hnb : b = none → cb = 0) :
    Calls Tryz.prog 59 #[.slice va ss.length vc, stV k sa sb, heV a vs.length ca b zs.length cb] w (ExecEnd (execS ss k sa sb vs zs) w) := by
  obtain ⟨W0, hW0, hb0, bs0, bh0, br0⟩ := three_boxL w [.int .i64 k, .string sa, .string sb] [.slice a vs.length ca, .slice b zs.length cb] [.slice none 0 0, .slice none 0 0] 83 30 30
  replace hW0 : (((w.alloc (.cells #[.int .i64 k, .string sa, .string sb] 83)).alloc (.cells #[.slice a vs.length ca, .slice b zs.length cb] 30)).alloc (.cells #[.slice none 0 0, .slice none 0 0] 30)) = W0 := hW0
  have hA : ∀ W, Below W0.heap.size W0 W → BoxL W w.heap.size [.int .i64 k, .string sa, .string sb] ∧ BoxL W (w.heap.size + 1) [.slice a vs.length ca, .slice b zs.length cb] ∧ BoxL W (w.heap.size + 2) [.slice none 0 0, .slice none 0 0] ∧ HeapAt W a b vs zs ∧ Row W W.heap.size va (strVals ss) ∧ Below w.heap.size w W := fun W hb =>
    have hbw := hb0.trans (hb.mono hb0.size)
    ⟨bs0.below hb, bh0.below hb, br0.below hb, h.below hbw (Nat.le_refl _), (hrow.below hbw).grow hbw.size, hbw⟩
  have HA := Lib.hid hA
  clear hA h hrow bs0 bh0 br0
  obtain ⟨b1, b2, b3, hh, hr, hB⟩ := HA.out _ (Below.refl _ _)
  have s0 := b1.c 0 _ rfl
  have s1 := b1.c 1 _ rfl
  have s2 := b1.c 2 _ rfl
  have q0 := b2.c 0 _ rfl
  have q1 := b2.c 1 _ rfl
  go_enter Tryz.func59, Tryz.ntmps59
  go_wp2_with fail
  clear hW0
  refine (specIsStmt va vc ss k sa sb _ hlen hws hr).mono ?_
  rintro e w1 ⟨rfl, hb1⟩
  clear b1 b2 b3 hh hr hB s0 s1 s2 q0 q1
  obtain ⟨b1, b2, b3, hh, hr, hB⟩ := HA.out _ hb1
  have r0 := b3.c 0 _ rfl
  have r1 := b3.c 1 _ rfl
  have rf := b3.f
  have rl := b3.lt
  cases hst : stmtB ss k sa sb with
  | false =>
    have HR := Lib.hid (show execS ss k sa sb vs zs = badC 7 from (if_neg (by simp [hst])))
    clear hst b1 b2
    go_wp2
    refine bodyPost_ret (v := .tuple #[heV none 0 0 none 0 0, .int .i64 7]) (by simp [results, Tryz.results59, go_sem, r0, r1]) rfl ?_
    rw [HR.out]
    refine exec_bad ?_
    repeat (first | with_reducible exact hB | refine Below.setCell ?_ (by go_size) _)
  | true =>
    have q0 := b2.c 0 _ rfl
    have q1 := b2.c 1 _ rfl
    go_wp2_with fail
    refine (specIsHeap (ss.length : Int) a b ca cb vs zs _ hv hz hh).mono ?_
    rintro e w2 ⟨rfl, hb2⟩
    have hb2 := hb1.trans (hb2.mono hb1.size)
    clear b1 b2 b3 hh hr hB r0 r1 rf rl q0 q1 hb1
    obtain ⟨b1, b2, b3, hh, hr, hB⟩ := HA.out _ hb2
    have r0 := b3.c 0 _ rfl
    have r1 := b3.c 1 _ rfl
    have rf := b3.f
    have rl := b3.lt
    cases hhp : heapB (ss.length : Int) vs zs with
    | false =>
      have HR := Lib.hid (show execS ss k sa sb vs zs = badC 7 from (if_neg (by simp [hhp])))
      clear hst hhp b1 b2
      go_wp2
      refine bodyPost_ret (v := .tuple #[heV none 0 0 none 0 0, .int .i64 7]) (by simp [results, Tryz.results59, go_sem, r0, r1]) rfl ?_
      rw [HR.out]
      refine exec_bad ?_
      repeat (first | with_reducible exact hB | refine Below.setCell ?_ (by go_size) _)
    | true =>
      obtain ⟨hvl, hz6, hgv, hgz, _⟩ := heapB_parts hhp
      obtain ⟨hk, hpa, hpb⟩ := stmt_names hst
      have hvl4 : vs.length ≤ 4 := hvl.2.1
      obtain ⟨pa, hpae⟩ : ∃ pa, (place ss sa).toNat = pa := ⟨_, rfl⟩
      obtain ⟨pb, hpbe⟩ : ∃ pb, (place ss sb).toNat = pb := ⟨_, rfl⟩
      have hpa : pa < vs.length := by
        rw [← hpae]
        by_cases h0 : 0 ≤ place ss sa
        · have := place_in h0
          omega
        · omega
      have hpb : pb < vs.length := by
        rw [← hpbe]
        by_cases h0 : 0 ≤ place ss sb
        · have := place_in h0
          omega
        · omega
      have HE := Lib.hid (fun c us ys (h : doS k pa pb vs zs = (c, us, ys)) (hc : ¬ c = 0) => exec_code hst hhp (by rw [hpae, hpbe]; exact h) hc)
      have HL := Lib.hid (fun us ys (h : doS k pa pb vs zs = (0, us, ys)) (hl : leakB us ys = true) => exec_leak hst hhp (by rw [hpae, hpbe]; exact h) hl)
      have HK := Lib.hid (fun us ys (h : doS k pa pb vs zs = (0, us, ys)) (hl : leakB us ys = false) => exec_ok hst hhp (by rw [hpae, hpbe]; exact h) hl)
      have HV := Lib.hid hvl
      have HST := Lib.hid hst
      have HHP := Lib.hid hhp
      clear hst hhp hvl
      have HPE := Lib.hid hpae
      have HQE := Lib.hid hpbe
      clear hpae hpbe
      have s0 := b1.c 0 _ rfl
      have s1 := b1.c 1 _ rfl
      have s2 := b1.c 2 _ rfl
      go_wp2_with fail
      refine (specIndexOf va vc ss sa _ hlen hr).mono ?_
      rintro e w3 ⟨rfl, rfl⟩
      go_wp2_with fail
      refine (specMax _ _).mono ?_
      rw [HPE.out]
      rintro e w3 ⟨rfl, rfl⟩
      go_wp2_with fail
      refine (specIndexOf va vc ss sb _ hlen hr).mono ?_
      rintro e w3 ⟨rfl, rfl⟩
      go_wp2_with fail
      refine (specMax _ _).mono ?_
      rw [HQE.out]
      rintro e w3 ⟨rfl, rfl⟩
      have hca := getD_cell hpa
      have hcb := getD_cell hpb
      obtain ⟨g, o, rfl, hg, hxa⟩ := hh.v pa _ (intVals_at vs pa hpa)
      obtain ⟨g', o', e, _, hxb⟩ := hh.v pb _ (intVals_at vs pb hpb)
      obtain ⟨rfl, rfl⟩ : g = g' ∧ o = o' := by
        injection e with e
        injection e with e1 e2
        exact ⟨e1, e2⟩
      obtain ⟨x, hx⟩ : ∃ x, vs.getD pa (-1) = x := ⟨_, rfl⟩
      obtain ⟨y, hy⟩ : ∃ y, vs.getD pb (-1) = y := ⟨_, rfl⟩
      rw [← hca, hx] at hxa
      rw [← hcb, hy] at hxb
      have HX := Lib.hid hx
      have HY := Lib.hid hy
      clear e hca hcb hx hy
      obtain ⟨bl, hbl⟩ : ∃ bl, (isTestS k && !testB k x y) = bl := ⟨_, rfl⟩
      have HBL := Lib.hid hbl
      clear hbl r0 r1 rf rl hB hr
      go_wp2
      refine Code.wp_mono (Q := After5 va vc ss k sa sb (some ⟨g, o, none⟩) b ca cb vs zs w.heap.size pa pb bl w2) ?tail5 ?region5
      case' region5 =>
        have cs0 := fun d os => cell_regrown s0 d os
        have cs1 := fun d os => cell_regrown s1 d os
        have cs2 := fun d os => cell_regrown s2 d os
        have cq0 := fun d os => cell_regrown (b2.c 0 _ rfl) d os
        have cxa := fun d os => cell_regrown hxa d os
        have cxb := fun d os => cell_regrown hxb d os
        clear s0 s1 s2 b1 b2 b3 hh hxa hxb
        cases hbit : isTestS k with
        | true =>
          have hbl := HBL.out
          rw [hbit, Bool.true_and] at hbl
          have HC1 := Lib.hid (show ∀ d os, Calls Tryz.prog 105 #[stV k sa sb] (grow (redrawn w2 d) os) (GaveB (.bool true) (grow (redrawn w2 d) os)) from fun d os => hbit ▸ specIsTest k sa sb _)
          have HC2 := Lib.hid (show ∀ d os, Calls Tryz.prog 106 #[.int .i64 k, .int .i64 x, .int .i64 y] (grow (redrawn w2 d) os) (fun e w' => e = .returned (.bool (testB k x y)) ∧ grow (redrawn w2 d) os = w') from fun d os => specTest k x y _)
          generalize testB k x y = tb at *
          subst hbl
          clear hbit
          refine wp_region_quiet_below (by kernel_rfl) (by kernel_rfl) ?_
          repeat (go_big_quiet_step (first | (go_at_call 105; with_reducible exact atB_again (HC1.out _ _)) | (go_at_call 106; with_reducible exact sameW_again (HC2.out _ _))))
          refine wpQuiet_nil ?_
          rintro w3 ⟨⟨d, os⟩, rfl⟩
          exact ⟨rfl, _, _, _, _, _, _, _, _, _, _, _, _, _, _, _, _, _, _, _, _, _, _, _, _, _, _, _, _, _, _, _, _, _, _, _, _, _, _, _, _, rfl, below_regrown w2 d os⟩
        | false =>
          have hbl := HBL.out
          rw [hbit, Bool.false_and] at hbl
          subst hbl
          have HC1 := Lib.hid (show ∀ d os, Calls Tryz.prog 105 #[stV k sa sb] (grow (redrawn w2 d) os) (GaveB (.bool false) (grow (redrawn w2 d) os)) from fun d os => hbit ▸ specIsTest k sa sb _)
          clear hbit
          refine wp_region_quiet_below (by kernel_rfl) (by kernel_rfl) ?_
          repeat (go_big_quiet_step (first | (go_at_call 105; with_reducible exact atB_again (HC1.out _ _))))
          refine wpQuiet_nil ?_
          rintro w3 ⟨⟨d, os⟩, rfl⟩
          exact ⟨rfl, _, _, _, _, _, _, _, _, _, _, _, _, _, _, _, _, _, _, _, _, _, _, _, _, _, _, _, _, _, _, _, _, _, _, _, _, _, _, _, _, rfl, below_regrown w2 d os⟩
      case' tail5 =>
        rintro e act W5 ⟨rfl, u12, u13, u14, u15, u16, u17, u18, u19, u20, u21, u22, u23, u24, u25, u26, u27, u28, u29, u30, u31, u32, u33, u35, u36, u37, u38, u39, u40, u41, u42, u43, u44, u45, u46, u47, u48, u49, u50, u51, u52, rfl, hb5⟩
        have H5 := hb2.trans (hb5.mono hb2.size)
        clear s0 s1 s2 b1 b2 b3 hh hxa hxb hb2 hb5 hg
        obtain ⟨b1, b2, b3, hh, hr, hB⟩ := HA.out _ H5
        unfold frame5
        have r0 := b3.c 0 _ rfl
        have r1 := b3.c 1 _ rfl
        have rf := b3.f
        have rl := b3.lt
        cases bl with
        | true =>
          obtain ⟨h1, h2⟩ := Bool.and_eq_true_iff.1 HBL.out
          have HR := Lib.hid (HE.out 1 [] [] (do_blocked h1 (by rw [HX.out, HY.out]; simpa using h2)) (by decide))
          clear h1 h2 b1 b2
          go_wp2
          refine bodyPost_ret (v := .tuple #[heV none 0 0 none 0 0, .int .i64 1]) (by simp [results, Tryz.results59, go_sem, r0, r1]) rfl ?_
          rw [HR.out]
          refine exec_bad ?_
          repeat (first | with_reducible exact hB | refine Below.setCell ?_ (by go_size) _)
        | false =>
          have s0 := b1.c 0 _ rfl
          have s1 := b1.c 1 _ rfl
          have s2 := b1.c 2 _ rfl
          have q0 := b2.c 0 _ rfl
          have q1 := b2.c 1 _ rfl
          go_wp2_with fail
          refine (specNull k sa sb hh hpa hpb).mono ?_
          rw [HX.out, HY.out]
          rintro e w6 ⟨rfl, hb6⟩
          have H6 := H5.trans (hb6.mono H5.size)
          clear s0 s1 s2 q0 q1 b1 b2 b3 hh hr hB r0 r1 rf rl H5 hb6
          obtain ⟨b1, b2, b3, hh, hr, hB⟩ := HA.out _ H6
          have r0 := b3.c 0 _ rfl
          have r1 := b3.c 1 _ rfl
          have rf := b3.f
          have rl := b3.lt
          cases hnl : nullB k x y with
          | true =>
            have HR := Lib.hid (HE.out 2 [] [] (do_null (by rw [HX.out, HY.out]; exact hnl)) (by decide))
            clear hnl b1 b2
            go_wp2
            refine bodyPost_ret (v := .tuple #[heV none 0 0 none 0 0, .int .i64 2]) (by simp [results, Tryz.results59, go_sem, r0, r1]) rfl ?_
            rw [HR.out]
            refine exec_bad ?_
            repeat (first | with_reducible exact hB | refine Below.setCell ?_ (by go_size) _)
          | false =>
            have s0 := b1.c 0 _ rfl
            have q0 := b2.c 0 _ rfl
            have q1 := b2.c 1 _ rfl
            have HNL := Lib.hid hnl
            clear hnl
            by_cases hfull : k = 3 ∧ zs.length = 6
            · obtain ⟨rfl, hzf⟩ := hfull
              have HR := Lib.hid (HE.out 6 [] [] (do_full hzf) (by decide))
              clear b1 b2
              have hzb : ((zs.length : Int) == 6) = true := by simp [hzf]
              go_wp2
              refine bodyPost_ret (v := .tuple #[heV none 0 0 none 0 0, .int .i64 6]) (by simp [results, Tryz.results59, go_sem, r0, r1]) rfl ?_
              rw [HR.out]
              refine exec_bad ?_
              repeat (first | with_reducible exact hB | refine Below.setCell ?_ (by go_size) _)
            · have hfu : k = 3 → zs.length ≠ 6 := fun e1 e2 => hfull ⟨e1, e2⟩
              have hbt : isTestS k = true → testB k x y = true := fun h1 => by
                have := HBL.out
                rw [h1, Bool.true_and] at this
                simpa using this
              obtain ⟨c9, us, ys, hdo⟩ : ∃ c us ys, doS k pa pb vs zs = (c, us, ys) := ⟨_, _, _, rfl⟩
              have HDO := Lib.hid hdo
              have hdl := doS_fine k pa pb vs zs
              rw [hdo] at hdl
              have hul : us.length ≤ 1048576 := by have := hdl.2.1; simp at this; omega
              have hyl : ys.length ≤ 1048576 := by have := hdl.2.2; simp at this; omega
              have HDC := Lib.hid (show ∀ lo hi W oa oca ob ocb, HeapIn lo hi W oa oca ob ocb (intVals vs) (intVals zs) → Calls Tryz.prog 108 #[stV k sa sb, heV oa vs.length oca ob zs.length ocb, .int .i64 pa, .int .i64 pb] W (Acted lo hi (blocksH oa ob vs.length oca zs.length ocb) (c9, us, ys) W) from
                fun lo hi W oa oca ob ocb hin => hdo ▸ specDo sa sb hin hpa hpb hvl4 hz6 hgv hgz hk (by rw [HX.out, HY.out]; exact hbt) (by rw [HX.out, HY.out]; exact HNL.out) hfu)
              have HS6 := Lib.hid (show ∀ W, Below w6.heap.size w6 W → (W.cell? ⟨w.heap.size, 0, none⟩ = some (.int .i64 k) ∧ W.cell? ⟨w.heap.size, 1, none⟩ = some (.string sa) ∧ W.cell? ⟨w.heap.size, 2, none⟩ = some (.string sb)) ∧ (W.cell? ⟨w.heap.size + 1, 0, none⟩ = some (.slice (some ⟨g, o, none⟩) vs.length ca) ∧ W.cell? ⟨w.heap.size + 1, 1, none⟩ = some (.slice b zs.length cb)) from fun W hb =>
                have hx := HA.out W (H6.trans (hb.mono H6.size))
                ⟨⟨hx.1.c 0 _ rfl, hx.1.c 1 _ rfl, hx.1.c 2 _ rfl⟩, hx.2.1.c 0 _ rfl, hx.2.1.c 1 _ rfl⟩)
              have HT9 := Lib.hid (show ∀ (lo hi : Nat) (S : Nat → Prop) (X Y W : World), w.heap.size + 2 < lo → Below w6.heap.size w6 X → TurnB lo hi S X Y → Below w6.heap.size Y W → (W.cell? ⟨w.heap.size, 0, none⟩ = some (.int .i64 k) ∧ W.cell? ⟨w.heap.size, 1, none⟩ = some (.string sa) ∧ W.cell? ⟨w.heap.size, 2, none⟩ = some (.string sb)) ∧ (W.cell? ⟨w.heap.size + 1, 0, none⟩ = some (.slice (some ⟨g, o, none⟩) vs.length ca) ∧ W.cell? ⟨w.heap.size + 1, 1, none⟩ = some (.slice b zs.length cb)) from fun lo hi S X Y W hlo hX tX hY =>
                have hx := HA.out X (H6.trans (hX.mono H6.size))
                have h1 := hx.1.turn tX.t (.inl (by omega))
                have h2 := hx.2.1.turn tX.t (.inl (by omega))
                have e1 : ∀ o, W.cell? ⟨w.heap.size, o, none⟩ = Y.cell? ⟨w.heap.size, o, none⟩ := fun o => hY.cell (p := ⟨w.heap.size, o, none⟩) (by show w.heap.size < _; omega)
                have e2 : ∀ o, W.cell? ⟨w.heap.size + 1, o, none⟩ = Y.cell? ⟨w.heap.size + 1, o, none⟩ := fun o => hY.cell (p := ⟨w.heap.size + 1, o, none⟩) (by show w.heap.size + 1 < _; omega)
                ⟨⟨(e1 _).trans (h1.c 0 _ rfl), (e1 _).trans (h1.c 1 _ rfl), (e1 _).trans (h1.c 2 _ rfl)⟩, (e2 _).trans (h2.c 0 _ rfl), (e2 _).trans (h2.c 1 _ rfl)⟩)
              have HCO := Lib.hid (fun W (hb : Below w6.heap.size w6 W) => specCopyL (some ⟨g, o, none⟩) b ca cb vs zs W hna hnb (HA.out W (H6.trans (hb.mono H6.size))).2.2.2.1 (by omega) (by omega))
              clear b1 b2 b3 hh hr hB r0 r1 rf hdo hdl hbt hfull HE
              have HE := Lib.hid (@exec_code ss k c9 sa sb vs zs us ys HST.out HHP.out (by rw [HPE.out, HQE.out]; exact HDO.out))
              have hz06 : W0.heap.size ≤ w6.heap.size := H6.size
              by_cases hk3 : k = 3
              case' pos =>
                have hkb : (k == 3) = true := by simp [hk3]
                have hzb : ((zs.length : Int) == 6) = false := by simp only [beq_eq_false_iff_ne, ne_eq]; omega
                clear hk3
              case' neg =>
                have hkb : (k == 3) = false := by simp [hk3]
                clear hk3
              all_goals
                clear hfu
                go_wp2
                refine Code.wp_mono (Q := After11 va vc ss k sa sb (some ⟨g, o, none⟩) b ca cb vs zs w.heap.size pa pb c9 w us ys) ?_ ?_
                · rintro e act W10 ⟨rfl, R, xa, xca, xb, xcb, u12, u13, u14, u15, u16, u17, u18, u19, u20, u21, u22, u23, u24, u25, u26, u27, u28, u29, u30, u31, u32, u33, u34, u35, u36, u37, u38, u39, u40, u41, u42, u43, u44, u45, u46, u47, u48, u49, u50, u51, u52, u53, u54, u55, u56, u57, u58, u59, u60, u61, u62, u63, u64, u65, u66, u67, u68, u69, u70, u71, u72, u73, u74, u75, u76, u77, u78, u79, u80, rfl, hinR, boxR, hresR, hBR⟩
                  clear HA HS6 HT9 HCO HDC s0 q0 q1 rl hz06 hkb hws H6 HX HY HPE HQE HBL HNL
                  unfold frame11
                  have c0 := boxR.c 0 _ rfl
                  have c1 := boxR.c 1 _ rfl
                  have r0 := hresR.c 0 _ rfl
                  have r1 := hresR.c 1 _ rfl
                  have rf := hresR.f
                  have rl' := hresR.lt
                  have hRl := boxR.lt
                  have hA10 : ∀ W, Below W10.heap.size W10 W → BoxL W R [.slice xa us.length xca, .slice xb ys.length xcb] ∧ BoxL W (w.heap.size + 2) [.slice none 0 0, .slice none 0 0] ∧ HeapAt W xa xb us ys ∧ Below w.heap.size w W := fun W hb =>
                    ⟨boxR.below hb, hresR.below hb, hinR.below hb (Nat.le_refl _), hBR.trans (hb.mono hBR.size)⟩
                  have HA10 := Lib.hid hA10
                  have hrows := hinR
                  clear hA10 hinR boxR hresR hBR
                  by_cases hc9 : c9 = 0
                  case' neg =>
                    have HR := Lib.hid (HE.out hc9)
                    have hcb : (c9 == 0) = false := by simpa using hc9
                    clear hc9 c0 c1 hrows
                    go_wp2
                    refine bodyPost_ret (v := .tuple #[heV none 0 0 none 0 0, .int .i64 c9]) (by simp [results, Tryz.results59, go_sem, r0, r1]) rfl ?_
                    rw [HR.out]
                    refine exec_bad ?_
                    exact (((HA10.out _ (Below.refl _ _)).2.2.2).setCell (by show w.heap.size ≤ w.heap.size + 2; omega) _).setCell (by show w.heap.size ≤ w.heap.size + 2; omega) _
                  case' pos =>
                    subst hc9
                    go_wp2_with fail
                    refine (specHasLeak xa xb xca xcb us ys _ hul hyl hrows).mono ?_
                    rintro e w11 ⟨rfl, hb11⟩
                    clear c0 c1 r0 r1 rf hrows
                    obtain ⟨boxR, hresR, hrows, hB11⟩ := HA10.out _ hb11
                    have r0 := hresR.c 0 _ rfl
                    have r1 := hresR.c 1 _ rfl
                    have rf := hresR.f
                    cases hlk : leakB us ys
                    case' true =>
                      have HR := Lib.hid (HL.out us ys HDO.out hlk)
                      clear hlk boxR hrows
                      go_wp2
                      refine bodyPost_ret (v := .tuple #[heV none 0 0 none 0 0, .int .i64 4]) (by simp [results, Tryz.results59, go_sem, r0, r1]) rfl ?_
                      rw [HR.out]
                      refine exec_bad ?_
                      exact (hB11.setCell (by show w.heap.size ≤ w.heap.size + 2; omega) _).setCell (by show w.heap.size ≤ w.heap.size + 2; omega) _
                    case' false =>
                      have HR := Lib.hid (HK.out us ys HDO.out hlk)
                      have c0 := boxR.c 0 _ rfl
                      have c1 := boxR.c 1 _ rfl
                      have hs11 := hb11.size
                      clear hlk
                      go_wp2_with fail
                      refine (specCanonHeap xa xb xca xcb us ys _ hul hyl hrows).mono ?_
                      rintro e w12 ⟨ya, yca, yb, ycb, rfl, hin12, hb12⟩
                      obtain ⟨_, hres12, _, hB12⟩ := HA10.out _ (hb11.trans (hb12.mono hb11.size))
                      clear c0 c1 r0 r1 rf boxR hresR hrows
                      have r0 := hres12.c 0 _ rfl
                      have r1 := hres12.c 1 _ rfl
                      have rf := hres12.f
                      have hX := heap_res (Q := w.heap.size + 2) (u := .slice ya (canonVs us ys).length yca) (v := .slice yb (canonNs us ys).length ycb) hin12 hB12 (by omega) (by omega)
                      have HX := Lib.hid hX
                      clear hX hin12
                      generalize canonVs us ys = ps at *
                      generalize canonNs us ys = qs at *
                      go_wp2
                      refine bodyPost_ret (v := .tuple #[heV ya ps.length yca yb qs.length ycb, .int .i64 0]) (by simp [results, Tryz.results59, go_sem, r0, r1]) rfl ?_
                      rw [HR.out]
                      exact ⟨ya, yca, yb, ycb, rfl, HX.out.1, HX.out.2⟩
                · go_region_held3 (fun W => (W.cell? ⟨w.heap.size, 0, none⟩ = some (.int .i64 k) ∧ W.cell? ⟨w.heap.size, 1, none⟩ = some (.string sa) ∧ W.cell? ⟨w.heap.size, 2, none⟩ = some (.string sb)) ∧ (W.cell? ⟨w.heap.size + 1, 0, none⟩ = some (.slice (some ⟨g, o, none⟩) vs.length ca) ∧ W.cell? ⟨w.heap.size + 1, 1, none⟩ = some (.slice b zs.length cb)))
                    (first | (refine HT9.out lo _ _ _ _ _ (by omega) ?_ t9 ?_ <;> (repeat (first | with_reducible exact Below.refl _ _ | with_reducible assumption | with_reducible refine Below.drew ?_ | with_reducible refine Below.setCell ?_ (by go_size) _ | with_reducible refine Below.alloc ?_ (by go_size) _)); done) | (refine HS6.out _ ?_; (repeat (first | with_reducible exact Below.refl _ _ | with_reducible assumption | with_reducible refine Below.drew ?_ | with_reducible refine Below.setCell ?_ (by go_size) _ | with_reducible refine Below.alloc ?_ (by go_size) _)); done))
                    (first
                      | (go_at_call 57; (with_reducible refine (HCO.out _ (by repeat (first | with_reducible exact Below.refl _ _ | with_reducible assumption | with_reducible refine Below.drew ?_ | with_reducible refine Below.setCell ?_ (by go_size) _ | with_reducible refine Below.alloc ?_ (by go_size) _))).mono ?_); rintro e w7 ⟨lo, oa, oca, ob, ocb, hlo7, rfl, hin7, hb7⟩; (try simp [World.size_alloc, World.size_drew] at hlo7); have hz7 := hb7.size; (try simp [World.size_alloc, World.size_drew] at hz7); (try (refine keep_cell (p := ⟨w6.heap.size, 0, none⟩) (x := .slice none 0 0) hb7 ?_ ?_ (fun z70 => ?_); (focus (first | go_size | omega)); (focus (first | (simp [go_sem]; done))))); (try (refine keep_frozen (g := w6.heap.size) hb7 ?_ ?_ (fun g70 => ?_); (focus (first | go_size | omega)); (focus (first | (simp [go_sem]; done))))); (try (refine keep_cell (p := ⟨w6.heap.size, 1, none⟩) (x := .slice none 0 0) hb7 ?_ ?_ (fun z71 => ?_); (focus (first | go_size | omega)); (focus (first | (simp [go_sem]; done))))); have H7 : Below w6.heap.size w6 w7 := Below.trans (by repeat (first | with_reducible exact Below.refl _ _ | with_reducible assumption | with_reducible refine Below.drew ?_ | with_reducible refine Below.setCell ?_ (by go_size) _ | with_reducible refine Below.alloc ?_ (by go_size) _)) (hb7.mono (by go_size)))
                      | (go_at_call 108; (refine (HDC.out lo w7.heap.size _ oa oca ob ocb (by first | with_reducible exact hin7 | exact hin7.below ((Below.refl _ _).alloc (Nat.le_refl _) _))).mono ?_); rintro e w9 ⟨xa, xca, xb, xcb, rfl, hin9, t9, hbl9⟩; have hz9 := t9.size; (try simp [World.size_alloc] at hz9); (try (refine turn_cell_ (p := ⟨w6.heap.size, 0, none⟩) (x := .slice none 0 0) t9.t ?_ ?_ ?_ (fun z90 => ?_); (focus (first | go_size | omega)); (focus (first | (left; (first | omega | go_size)) | (right; (first | omega | go_size)))); (focus (first | (simp [go_sem]; done) | exact z70)))); (try (refine turn_frozen_ (g := w6.heap.size) t9.t ?_ ?_ ?_ (fun g90 => ?_); (focus (first | go_size | omega)); (focus (first | (left; (first | omega | go_size)) | (right; (first | omega | go_size)))); (focus (first | (simp [go_sem]; done) | exact g70)))); (try (refine turn_cell_ (p := ⟨w6.heap.size, 1, none⟩) (x := .slice none 0 0) t9.t ?_ ?_ ?_ (fun z91 => ?_); (focus (first | go_size | omega)); (focus (first | (left; (first | omega | go_size)) | (right; (first | omega | go_size)))); (focus (first | (simp [go_sem]; done) | exact z71)))); (try (refine turn_cell_ (p := ⟨w7.heap.size, 0, none⟩) (x := .slice none 0 0) t9.t ?_ ?_ ?_ (fun y90 => ?_); (focus (first | go_size | omega)); (focus (first | (left; (first | omega | go_size)) | (right; (first | omega | go_size)))); (focus (first | (simp [go_sem]; done))))); (try (refine turn_frozen_ (g := w7.heap.size) t9.t ?_ ?_ ?_ (fun v90 => ?_); (focus (first | go_size | omega)); (focus (first | (left; (first | omega | go_size)) | (right; (first | omega | go_size)))); (focus (first | (simp [go_sem]; done))))); (try (refine turn_cell_ (p := ⟨w7.heap.size, 1, none⟩) (x := .slice none 0 0) t9.t ?_ ?_ ?_ (fun y91 => ?_); (focus (first | go_size | omega)); (focus (first | (left; (first | omega | go_size)) | (right; (first | omega | go_size)))); (focus (first | (simp [go_sem]; done))))); skip))
                  all_goals
                    have hinB := hin7.blocks
                    have h76 := H7.size
                    have hbase : ∃ X, Below w6.heap.size w6 X ∧ TurnB lo w7.heap.size (blocksH oa ob vs.length oca zs.length ocb) X w9 ∧ w7.heap.size ≤ X.heap.size := ⟨_, (by repeat (first | with_reducible exact Below.refl _ _ | with_reducible assumption | with_reducible refine Below.drew ?_ | with_reducible refine Below.setCell ?_ (by go_size) _ | with_reducible refine Below.alloc ?_ (by go_size) _)), t9, by go_size⟩
                    obtain ⟨X9, hX9, tX9, hX7⟩ := hbase
                    have hB9 : Below w.heap.size w w9 := tX9.t.below (HA.out _ (H6.trans (hX9.mono H6.size))).2.2.2.2.2 (by omega) (Nat.le_trans (by omega) hX9.size)
                    have hres9 : BoxL w9 (w.heap.size + 2) [.slice none 0 0, .slice none 0 0] := (HA.out _ (H6.trans (hX9.mono H6.size))).2.2.1.turn tX9.t (.inl (by omega))
                    have hXs := tX9.size
                    first
                    | (have box9 : BoxL w9 w6.heap.size [.slice none 0 0, .slice none 0 0] := box_of (by assumption) (by go_size) (by assumption) (by assumption)
                       have hneR : ∀ k, blocksH xa xb us.length xca ys.length xcb k → k ≠ w6.heap.size := (fun k hk e => by
                         rcases hbl9 k hk with q | q
                         · have := hinB _ q
                           omega
                         · (try simp at q)
                           omega)
                       have hinR := ((hin9.setNot (i := 0) (u := .slice xa us.length xca) hneR).setNot (i := 1) (u := .slice xb ys.length xcb) hneR)
                       have boxR := (box9.set 0 (.slice xa us.length xca)).set 1 (.slice xb ys.length xcb)
                       have hresR : BoxL ((w9.setCell ⟨w6.heap.size, 0, none⟩ (.slice xa us.length xca)).setCell ⟨w6.heap.size, 1, none⟩ (.slice xb ys.length xcb)) (w.heap.size + 2) [.slice none 0 0, .slice none 0 0] := (hres9.turn (turn_set w9 w6.heap.size 0 (.slice xa us.length xca)) (.inl (by omega))).turn (turn_set _ w6.heap.size 1 (.slice xb ys.length xcb)) (.inl (by omega))
                       have hBR : Below w.heap.size w ((w9.setCell ⟨w6.heap.size, 0, none⟩ (.slice xa us.length xca)).setCell ⟨w6.heap.size, 1, none⟩ (.slice xb ys.length xcb)) := (hB9.setCell (by show w.heap.size ≤ w6.heap.size; omega) _).setCell (by show w.heap.size ≤ w6.heap.size; omega) _
                       skip)
                    | (have box9 : BoxL w9 w7.heap.size [.slice none 0 0, .slice none 0 0] := box_of (by assumption) (by go_size) (by assumption) (by assumption)
                       have hneR : ∀ k, blocksH xa xb us.length xca ys.length xcb k → k ≠ w7.heap.size := (fun k hk e => by
                         rcases hbl9 k hk with q | q
                         · have := hinB _ q
                           omega
                         · (try simp at q)
                           omega)
                       have hinR := ((hin9.setNot (i := 0) (u := .slice xa us.length xca) hneR).setNot (i := 1) (u := .slice xb ys.length xcb) hneR)
                       have boxR := (box9.set 0 (.slice xa us.length xca)).set 1 (.slice xb ys.length xcb)
                       have hresR : BoxL ((w9.setCell ⟨w7.heap.size, 0, none⟩ (.slice xa us.length xca)).setCell ⟨w7.heap.size, 1, none⟩ (.slice xb ys.length xcb)) (w.heap.size + 2) [.slice none 0 0, .slice none 0 0] := (hres9.turn (turn_set w9 w7.heap.size 0 (.slice xa us.length xca)) (.inl (by omega))).turn (turn_set _ w7.heap.size 1 (.slice xb ys.length xcb)) (.inl (by omega))
                       have hBR : Below w.heap.size w ((w9.setCell ⟨w7.heap.size, 0, none⟩ (.slice xa us.length xca)).setCell ⟨w7.heap.size, 1, none⟩ (.slice xb ys.length xcb)) := (hB9.setCell (by show w.heap.size ≤ w7.heap.size; omega) _).setCell (by show w.heap.size ≤ w7.heap.size; omega) _
                       skip)
                    | (have hal := (Below.refl w9.heap.size w9).alloc (Nat.le_refl _) (.cells #[.slice xa us.length xca, .slice xb ys.length xcb] 30)
                       have boxR : BoxL (w9.alloc (.cells #[.slice xa us.length xca, .slice xb ys.length xcb] 30)) w9.heap.size [.slice xa us.length xca, .slice xb ys.length xcb] := BoxL.new w9 _ _
                       have hinR := hin9.below hal
                       have hresR := hres9.below hal
                       have hBR := hB9.trans (hal.mono hB9.size))
                    exact ⟨rfl, _, xa, xca, xb, xcb, _, _, _, _, _, _, _, _, _, _, _, _, _, _, _, _, _, _, _, _, _, _, _, _, _, _, _, _, _, _, _, _, _, _, _, _, _, _, _, _, _, _, _, _, _, _, _, _, _, _, _, _, _, _, _, _, _, _, _, _, _, _, _, _, _, _, _, _, _, rfl, hinR.rows, boxR, hresR, hBR⟩
end Go.Proofs.YtpmmjaceehlpiaaGreatDoor
