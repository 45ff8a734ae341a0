/-
  The program's Exec.
-/
import Derived.Deep.RegionHeld3
import Derived.Handy
import Derived.Test.YtpmmjaceehlpiaaGreatDoorR11
import Derived.Test.YtpmmjaceehlpiaaGreatDoorR06
namespace Go.Proofs.YtpmmjaceehlpiaaGreatDoor
open Go Go.RowKit Go.ChangeShapes Go.WideShapes Go.ChangeAt

/-- What stands behind the action: what it answered, in a box at R. -/
def frame4 (va : Option Addr) (vc : Nat) (ss : List ByteArray) (k : Int) (sa sb : ByteArray) (a b : Option Addr) (ca cb : Nat) (vs zs : List Int) (B : Nat) (c9 : Int) (us ys : List Int) (R : Nat) (f6 : FuncId) (caps6 : Array Value) (oa : Option Addr) (oca : Nat) (ob : Option Addr) (ocb : Nat) (xa : Option Addr) (xca : Nat) (xb : Option Addr) (xcb : Nat) : Act :=
  { tmps := #[.slice va ss.length vc, stV k sa sb, heV a vs.length ca b zs.length cb, undef, .pointer (some ⟨B, 0, none⟩), .pointer (some ⟨B + 1, 0, none⟩), .pointer (some ⟨B + 1 + 1, 0, none⟩), .int .i64 0, .pointer (some ⟨R, 0, none⟩), .int .i64 c9, .slice va ss.length vc, .agg #[.int .i64 k, .string sa, .string sb], .bool true, .bool false, .bool false, .slice va ss.length vc, .int .i64 (ss.length : Int), .agg #[.slice a vs.length ca, .slice b zs.length cb], .bool true, .bool false, .bool false, undef, .tuple #[heV xa us.length xca xb ys.length xcb, .int .i64 c9], .pointer (some ⟨B, 0, none⟩), .int .i64 k, .func (.func f6) #[] caps6, .agg #[.slice a vs.length ca, .slice b zs.length cb], heV oa vs.length oca ob zs.length ocb, .slice va ss.length vc, .pointer (some ⟨B, 1, none⟩), .string sa, .int .i64 (place ss sa), .slice va ss.length vc, .pointer (some ⟨B, 2, none⟩), .string sb, .int .i64 (place ss sb), .tuple #[heV xa us.length xca xb ys.length xcb, .int .i64 c9], heV xa us.length xca xb ys.length xcb, .int .i64 c9, undef, undef, undef, undef, undef, undef, undef, undef, undef], defers := [] }
structure Own4 (w W : World) (R : Nat) (xa : Option Addr) (xca : Nat) (xb : Option Addr) (xcb : Nat) (us ys : List Int) : Prop where
  hin : HeapAt W xa xb us ys
  box : BoxL W R [.slice xa us.length xca, .slice xb ys.length xcb]
  res : BoxL W (w.heap.size + 2) [.slice none 0 0, .slice none 0 0]
  below : Below w.heap.size w W
def After4 (F : Nat → FuncId → Array Value → Option Addr → Nat → Option Addr → Nat → Option Addr → Nat → Option Addr → Nat → Act) (w : World) (us ys : List Int) (e : Exit) (act : Act) (W : World) : Prop :=
  e = .normal ∧ ∃ R f6 caps6 oa oca ob ocb xa xca xb xcb, act = F R f6 caps6 oa oca ob ocb xa xca xb xcb ∧ Own4 w W R xa xca xb xcb us ys
section
variable {w w9 : World} {lo : Nat} {xa xb : Option Addr} {xca xcb : Nat} {us ys : List Int}
theorem own4_alloc (t : TypeId) (hin : HeapIn lo w9.heap.size w9 xa xca xb xcb (intVals us) (intVals ys)) (hres : BoxL w9 (w.heap.size + 2) [.slice none 0 0, .slice none 0 0]) (hB : Below w.heap.size w w9) :
    Own4 w (w9.alloc (.cells #[.slice xa us.length xca, .slice xb ys.length xcb] t)) w9.heap.size xa xca xb xcb us ys :=
  have hal := (Below.refl w9.heap.size w9).alloc (Nat.le_refl _) (.cells #[.slice xa us.length xca, .slice xb ys.length xcb] t)
  ⟨(hin.below hal).rows, BoxL.new w9 _ _, hres.below hal, hB.trans (hal.mono hB.size)⟩
theorem own4_set {R : Nat} (bR : BoxL w9 R [.slice none 0 0, .slice none 0 0]) (hin : HeapIn lo w9.heap.size w9 xa xca xb xcb (intVals us) (intVals ys)) (hne : ∀ k, blocksH xa xb us.length xca ys.length xcb k → k ≠ R) (hres : BoxL w9 (w.heap.size + 2) [.slice none 0 0, .slice none 0 0]) (hB : Below w.heap.size w w9) (hR : w.heap.size + 2 < R) :
    Own4 w ((w9.setCell ⟨R, 0, none⟩ (.slice xa us.length xca)).setCell ⟨R, 1, none⟩ (.slice xb ys.length xcb)) R xa xca xb xcb us ys :=
  ⟨((hin.setNot (i := 0) (u := .slice xa us.length xca) hne).setNot (i := 1) (u := .slice xb ys.length xcb) hne).rows, (bR.set 0 (.slice xa us.length xca)).set 1 (.slice xb ys.length xcb),
    (hres.turn (turn_set w9 R 0 (.slice xa us.length xca)) (.inl hR)).turn (turn_set _ R 1 (.slice xb ys.length xcb)) (.inl hR), (hB.setCell (by show w.heap.size ≤ R; omega) _).setCell (by show w.heap.size ≤ R; omega) _⟩
end
set_option maxRecDepth 100000 in
set_option maxHeartbeats 8000000 in
theorem implExec (va : Option Addr) (vc : Nat) (ss : List ByteArray) (k : Int) (sa sb : ByteArray) (a b : Option Addr) (ca cb : Nat) (vs zs : List Int) (w : World) (hlen : ss.length ≤ maxLen) (hws : ∀ s ∈ ss, s.size ≤ maxLen) (hrow : Row w w.heap.size va (strVals ss))
    (hv : vs.length ≤ maxLen) (hz : zs.length ≤ maxLen) (h : HeapAt w a b vs zs) (hT : HasNamesTable w) :
    Calls Tryz.prog 100 #[.slice va ss.length vc, stV k sa sb, heV a vs.length ca b zs.length cb] w (ExecEnd (execS ss k sa sb vs zs) w) := by
  obtain ⟨W0, hW0, hb0, bs0, bh0, br0⟩ := three_boxL w [.int .i64 k, .string sa, .string sb] [.slice a vs.length ca, .slice b zs.length cb] [.slice none 0 0, .slice none 0 0] 83 30 30
  replace hW0 : (((w.alloc (.cells #[.int .i64 k, .string sa, .string sb] 83)).alloc (.cells #[.slice a vs.length ca, .slice b zs.length cb] 30)).alloc (.cells #[.slice none 0 0, .slice none 0 0] 30)) = W0 := hW0
  have hA : ∀ W, Below W0.heap.size W0 W → BoxL W w.heap.size [.int .i64 k, .string sa, .string sb] ∧ BoxL W (w.heap.size + 1) [.slice a vs.length ca, .slice b zs.length cb] ∧ BoxL W (w.heap.size + 2) [.slice none 0 0, .slice none 0 0] ∧ HeapAt W a b vs zs ∧ Row W W.heap.size va (strVals ss) ∧ HasNamesTable W ∧ Below w.heap.size w W := fun W hb =>
    have hbw := hb0.trans (hb.mono hb0.size)
    ⟨bs0.below hb, bh0.below hb, br0.below hb, h.below hbw (Nat.le_refl _), (hrow.below hbw).grow hbw.size, hT.keeps hbw, hbw⟩
  have HA := Lib.hid hA
  clear hA h hrow hT bs0 bh0 br0
  obtain ⟨b1, b2, b3, hh, hr, ht, hB⟩ := HA.out _ (Below.refl _ _)
  have s0 := b1.c 0 _ rfl
  have s1 := b1.c 1 _ rfl
  have s2 := b1.c 2 _ rfl
  have q0 := b2.c 0 _ rfl
  have q1 := b2.c 1 _ rfl
  go_enter Tryz.func100, Tryz.ntmps100
  go_wp2_with fail
  clear hW0
  refine (implIsStmt va vc ss k sa sb _ hlen hws hr ht).mono ?_
  rintro e w1 ⟨rfl, hb1⟩
  clear b1 b2 b3 hh hr ht hB s0 s1 s2 q0 q1
  obtain ⟨b1, b2, b3, hh, hr, ht, hB⟩ := HA.out _ hb1
  have r0 := b3.c 0 _ rfl
  have r1 := b3.c 1 _ rfl
  have rf := b3.f
  have rl := b3.lt
  cases hst : stmtB ss k sa sb with
  | false =>
    have HR := Lib.hid (show execS ss k sa sb vs zs = badC 7 from (if_neg (by simp [hst])))
    clear hst b1 b2
    go_wp2
    refine bodyPost_ret (v := .tuple #[heV none 0 0 none 0 0, .int .i64 7]) (by simp [results, Tryz.results100, go_sem, r0, r1]) rfl ?_
    rw [HR.out]
    refine exec_bad ?_
    repeat (first | with_reducible exact hB | refine Below.setCell ?_ (by go_size) _)
  | true =>
    have q0 := b2.c 0 _ rfl
    have q1 := b2.c 1 _ rfl
    go_wp2_with fail
    refine (implIsHeap (ss.length : Int) a b ca cb vs zs _ hv hz hh).mono ?_
    rintro e w2 ⟨rfl, hb2⟩
    have hb2 := hb1.trans (hb2.mono hb1.size)
    clear b1 b2 b3 hh hr ht hB r0 r1 rf rl q0 q1 hb1
    obtain ⟨b1, b2, b3, hh, hr, ht, hB⟩ := HA.out _ hb2
    have r0 := b3.c 0 _ rfl
    have r1 := b3.c 1 _ rfl
    have rf := b3.f
    have rl := b3.lt
    cases hhp : heapB (ss.length : Int) vs zs with
    | false =>
      have HR := Lib.hid (show execS ss k sa sb vs zs = badC 7 from (if_neg (by simp [hhp])))
      clear hst hhp b1 b2
      go_wp2
      refine bodyPost_ret (v := .tuple #[heV none 0 0 none 0 0, .int .i64 7]) (by simp [results, Tryz.results100, go_sem, r0, r1]) rfl ?_
      rw [HR.out]
      refine exec_bad ?_
      repeat (first | with_reducible exact hB | refine Below.setCell ?_ (by go_size) _)
    | true =>
      obtain ⟨hvl, hz6, hgv, hgz, _⟩ := heapB_parts hhp
      obtain ⟨hk, hpa, hpb⟩ := stmt_names hst
      have HST := Lib.hid hst
      have HHP := Lib.hid hhp
      have hvl4 : vs.length ≤ 4 := hvl.2.1
      have hvss : vs.length = ss.length := by omega
      clear hst hhp r0 r1 rf b1 b3 ht
      have HPA := Lib.hid (show 1 ≤ namesN k → 0 ≤ place ss sa ∧ place ss sa < (vs.length : Int) from fun h1 => ⟨hpa h1, by have := place_in (hpa h1); omega⟩)
      have HPB := Lib.hid (show 2 ≤ namesN k → 0 ≤ place ss sb ∧ place ss sb < (vs.length : Int) from fun h1 => ⟨hpb h1, by have := place_in (hpb h1); omega⟩)
      clear hpa hpb hvl hvss
      have hD : Below W0.heap.size W0 w2.drew := hb2.drew
      have hz2 : W0.heap.size ≤ w2.heap.size := hb2.size
      obtain ⟨lo, hlo1, hlo2⟩ : ∃ lo, lo ≤ w2.heap.size ∧ w.heap.size + 2 < lo := ⟨w2.heap.size, Nat.le_refl _, rl⟩
      have hS : ∀ W, Below W0.heap.size W0 W → W.cell? ⟨w.heap.size + 1, 0, none⟩ = some (.slice a vs.length ca) ∧ W.cell? ⟨w.heap.size + 1, 1, none⟩ = some (.slice b zs.length cb) := fun W hb => ⟨(HA.out W hb).2.1.c 0 _ rfl, (HA.out W hb).2.1.c 1 _ rfl⟩
      have HS := Lib.hid hS
      clear hS
      have hBW : ∀ W, Below W0.heap.size W0 W → Below w.heap.size w W := fun W hb => (HA.out W hb).2.2.2.2.2.2
      have hHT : ∀ W, Below W0.heap.size W0 W → HeapAt W a b vs zs := fun W hb => (HA.out W hb).2.2.2.1
      have hRW : ∀ W, Below W0.heap.size W0 W → Row W W.heap.size va (strVals ss) := fun W hb => (HA.out W hb).2.2.2.2.1
      have hS : ∀ W, Below W0.heap.size W0 W → (W.cell? ⟨w.heap.size, 0, none⟩ = some (.int .i64 k) ∧ W.cell? ⟨w.heap.size, 1, none⟩ = some (.string sa) ∧ W.cell? ⟨w.heap.size, 2, none⟩ = some (.string sb)) ∧ (W.cell? ⟨w.heap.size + 1, 0, none⟩ = some (.slice a vs.length ca) ∧ W.cell? ⟨w.heap.size + 1, 1, none⟩ = some (.slice b zs.length cb)) := fun W hb =>
        have hx := HA.out W hb
        ⟨⟨hx.1.c 0 _ rfl, hx.1.c 1 _ rfl, hx.1.c 2 _ rfl⟩, hx.2.1.c 0 _ rfl, hx.2.1.c 1 _ rfl⟩
      have HS := Lib.hid hS
      have HHT := Lib.hid hHT
      have HRW := Lib.hid hRW
      have HBW := Lib.hid hBW
      obtain ⟨c9, us, ys, hdo⟩ : ∃ c us ys, doS k (place ss sa).toNat (place ss sb).toNat vs zs = (c, us, ys) := ⟨_, _, _, rfl⟩
      have HDO := Lib.hid hdo
      clear hS hHT hRW hBW hdo b2 hh hr hB
      go_wp2
      refine Code.wp_mono (Q := After4 (frame4 va vc ss k sa sb a b ca cb vs zs w.heap.size c9 us ys) w us ys) ?tail4 ?region4
      case' region4 =>
        go_region_held3 (fun W => (W.cell? ⟨w.heap.size, 0, none⟩ = some (.int .i64 k) ∧ W.cell? ⟨w.heap.size, 1, none⟩ = some (.string sa) ∧ W.cell? ⟨w.heap.size, 2, none⟩ = some (.string sb)) ∧ (W.cell? ⟨w.heap.size + 1, 0, none⟩ = some (.slice a vs.length ca) ∧ W.cell? ⟨w.heap.size + 1, 1, none⟩ = some (.slice b zs.length cb)))
          (first | exact HS.out _ (by repeat (first | with_reducible assumption | with_reducible refine Below.drew ?_ | with_reducible refine Below.setCell ?_ (by go_size) _ | with_reducible refine Below.alloc ?_ (by go_size) _)))
          (first
            | (go_at_call 134; (with_reducible refine (implActionOf k hk _).mono ?_); rintro e w6 ⟨f6, caps6, rfl, hact, hb6, henter⟩; have HACT := Lib.hid hact; clear hact; have H6 : Below W0.heap.size W0 w6 := Below.trans (by repeat (first | with_reducible assumption | with_reducible refine Below.drew ?_ | with_reducible refine Below.alloc ?_ (by go_size) _)) (hb6.mono (by go_size)); have z6 := H6.size; have z62 := hb6.size; (try (simp only [World.size_alloc, World.size_drew] at z62)); (try (have bA6 : BoxL w6 w2.heap.size [.slice none 0 0, .slice none 0 0] := BoxL.below (BoxL.new w2.drew [.slice none 0 0, .slice none 0 0] 30) hb6)); skip)
            | (go_at_call 52; (with_reducible refine (implCopy a b ca cb vs zs _ (by omega) (by omega) (HHT.out _ (by repeat (first | with_reducible assumption | with_reducible refine Below.alloc ?_ (by go_size) _)))).mono ?_); rintro e w7 ⟨oa, oca, ob, ocb, rfl, hin7, hb7⟩; have H7 : Below W0.heap.size W0 w7 := Below.trans (by repeat (first | with_reducible assumption | with_reducible refine Below.alloc ?_ (by go_size) _)) (hb7.mono (by go_size)); have z7 := H7.size; have z76 := hb7.size; (try (simp only [World.size_alloc] at z76)); (try (have bA7 := bA6.below hb7)); (try (have bB7 : BoxL w7 w6.heap.size [.slice none 0 0, .slice none 0 0] := BoxL.below (BoxL.new w6 [.slice none 0 0, .slice none 0 0] 30) hb7)); skip)
            | (go_at_call 126; (with_reducible refine (implIndexOf va vc ss sa _ hlen (HRW.out _ (by repeat (first | with_reducible assumption | with_reducible refine Below.alloc ?_ (by go_size) _)))).mono ?_); rintro e w8 ⟨rfl, rfl⟩)
            | (go_at_call 126; (with_reducible refine (implIndexOf va vc ss sb _ hlen (HRW.out _ (by repeat (first | with_reducible assumption | with_reducible refine Below.alloc ?_ (by go_size) _)))).mono ?_); rintro e w8 ⟨rfl, rfl⟩)
            | ((refine (HACT.out _ _ _ oa oca ob ocb vs zs (place ss sa) (place ss sb) (by repeat (first | with_reducible exact Below.refl _ _ | with_reducible exact hb7 | with_reducible refine Below.trans (Below.alloc (Below.refl _ _) (Nat.le_refl _) _) (hb7.mono (by go_size)) | with_reducible refine Below.alloc ?_ (by go_size) _)) (hin7.below (by repeat (first | with_reducible exact Below.refl _ _ | with_reducible refine Below.alloc ?_ (by go_size) _))) hvl4 hz6 hgv hgz HPA.out HPB.out).mono ?_); rw [HDO.out]; rintro e w9 ⟨xa, xca, xb, xcb, rfl, hin9, t9, hbl9⟩; have H9 : Below W0.heap.size W0 w9 := t9.t.below (by repeat (first | with_reducible assumption | with_reducible refine Below.alloc ?_ (by go_size) _)) (by go_size) (by go_size); have z9 := H9.size; (try (have bR9 := bA7.turn t9.t (.inl (by go_size)))); (try (have bR9 := bB7.turn t9.t (.inl (by go_size)))); (try (have bR9 : BoxL w9 w7.heap.size [.slice none 0 0, .slice none 0 0] := BoxL.turn (BoxL.new w7 [.slice none 0 0, .slice none 0 0] 30) t9.t (.inr (Nat.le_refl _)))); (try (have e90 := bR9.c 0 _ rfl; have e91 := bR9.c 1 _ rfl; have f90 := bR9.f; have l90 := bR9.lt)); skip))
        all_goals
          have hinB := hin7.blocks
          have hx9 := HA.out _ H9
          first
            | exact ⟨rfl, _, f6, caps6, oa, oca, ob, ocb, xa, xca, xb, xcb, rfl, own4_alloc _ hin9 hx9.2.2.1 hx9.2.2.2.2.2.2⟩
            | (refine ⟨rfl, _, f6, caps6, oa, oca, ob, ocb, xa, xca, xb, xcb, rfl, own4_set bR9 hin9 ?_ hx9.2.2.1 hx9.2.2.2.2.2.2 ?_⟩
               · intro k hk e
                 rcases hbl9 k hk with q | q
                 · have q := hinB _ q
                   (try simp at q)
                   omega
                 · (try simp at q)
                   omega
               · omega)
      case' tail4 =>
        rintro e act W10 ⟨rfl, R, f6, caps6, oa, oca, ob, ocb, xa, xca, xb, xcb, rfl, hinR, boxR, hresR, hBR⟩
        clear HA HS HHT HRW HBW HPA HPB hb0 hws hD hb2
        unfold frame4
        have hdl := doS_fine k (place ss sa).toNat (place ss sb).toNat vs zs
        rw [HDO.out] at hdl
        have hul : us.length ≤ 1048576 := by have := hdl.2.1; simp at this; omega
        have hyl : ys.length ≤ 1048576 := by have := hdl.2.2; simp at this; omega
        clear hdl
        have c0 := boxR.c 0 _ rfl
        have c1 := boxR.c 1 _ rfl
        have r0 := hresR.c 0 _ rfl
        have r1 := hresR.c 1 _ rfl
        have rf := hresR.f
        have rl' := hresR.lt
        have hRl := boxR.lt
        have hA10 : ∀ W, Below W10.heap.size W10 W → BoxL W R [.slice xa us.length xca, .slice xb ys.length xcb] ∧ BoxL W (w.heap.size + 2) [.slice none 0 0, .slice none 0 0] ∧ HeapAt W xa xb us ys ∧ Below w.heap.size w W := fun W hb =>
          ⟨boxR.below hb, hresR.below hb, hinR.below hb (Nat.le_refl _), hBR.trans (hb.mono hBR.size)⟩
        have HA10 := Lib.hid hA10
        have hrows := hinR
        clear hA10 hinR boxR hresR hBR
        by_cases hc9 : c9 = 0
        case' neg =>
          have HR := Lib.hid (exec_code HST.out HHP.out HDO.out hc9)
          have hcb : (c9 == 0) = false := by simpa using hc9
          clear hc9 c0 c1 hrows
          go_wp2
          refine bodyPost_ret (v := .tuple #[heV none 0 0 none 0 0, .int .i64 c9]) (by simp [results, Tryz.results100, go_sem, r0, r1]) rfl ?_
          rw [HR.out]
          refine exec_bad ?_
          exact (((HA10.out _ (Below.refl _ _)).2.2.2).setCell (by show w.heap.size ≤ w.heap.size + 2; omega) _).setCell (by show w.heap.size ≤ w.heap.size + 2; omega) _
        case' pos =>
          subst hc9
          go_wp2_with fail
          refine (implHasLeak xa xb xca xcb us ys _ hul hyl hrows).mono ?_
          rintro e w11 ⟨rfl, hb11⟩
          clear c0 c1 r0 r1 rf hrows
          obtain ⟨boxR, hresR, hrows, hB11⟩ := HA10.out _ hb11
          have r0 := hresR.c 0 _ rfl
          have r1 := hresR.c 1 _ rfl
          have rf := hresR.f
          cases hlk : leakB us ys
          case' true =>
            have HR := Lib.hid (exec_leak HST.out HHP.out HDO.out hlk)
            clear hlk boxR hrows
            go_wp2
            refine bodyPost_ret (v := .tuple #[heV none 0 0 none 0 0, .int .i64 4]) (by simp [results, Tryz.results100, go_sem, r0, r1]) rfl ?_
            rw [HR.out]
            refine exec_bad ?_
            exact (hB11.setCell (by show w.heap.size ≤ w.heap.size + 2; omega) _).setCell (by show w.heap.size ≤ w.heap.size + 2; omega) _
          case' false =>
            have HR := Lib.hid (exec_ok HST.out HHP.out HDO.out hlk)
            have c0 := boxR.c 0 _ rfl
            have c1 := boxR.c 1 _ rfl
            have hs11 := hb11.size
            clear hlk
            go_wp2_with fail
            refine (implCanonHeap xa xb xca xcb us ys _ hul hyl hrows).mono ?_
            rintro e w12 ⟨ya, yca, yb, ycb, rfl, hin12, hb12⟩
            obtain ⟨_, hres12, _, hB12⟩ := HA10.out _ (hb11.trans (hb12.mono hb11.size))
            clear c0 c1 r0 r1 rf boxR hresR hrows
            have r0 := hres12.c 0 _ rfl
            have r1 := hres12.c 1 _ rfl
            have rf := hres12.f
            have hX := heap_res (Q := w.heap.size + 2) (u := .slice ya (canonVs us ys).length yca) (v := .slice yb (canonNs us ys).length ycb) hin12 hB12 (by omega) (by omega)
            have HX := Lib.hid hX
            clear hX hin12
            generalize canonVs us ys = ps at *
            generalize canonNs us ys = qs at *
            go_wp2
            refine bodyPost_ret (v := .tuple #[heV ya ps.length yca yb qs.length ycb, .int .i64 0]) (by simp [results, Tryz.results100, go_sem, r0, r1]) rfl ?_
            rw [HR.out]
            exact ⟨ya, yca, yb, ycb, rfl, HX.out.1, HX.out.2⟩
end Go.Proofs.YtpmmjaceehlpiaaGreatDoor
