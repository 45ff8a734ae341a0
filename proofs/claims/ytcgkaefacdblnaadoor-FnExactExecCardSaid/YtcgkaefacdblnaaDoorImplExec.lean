/-
  The program's Exec.
-/
import Derived.Test.YtcgkaefacdblnaaDoorImplAction
import Derived.Test.YtcgkaefacdblnaaDoorImplIsHeap
import Derived.Test.YtcgkaefacdblnaaDoorImplLeak
import Derived.Deep.RegionHeld3
import Derived.Handy
namespace Go.Proofs.YtcgkaefacdblnaaDoor
open Go Go.RowKit Go.ChangeShapes Go.WideShapes Go.ChangeAt

theorem heapIn_two {lo b3 b4 : Nat} {w3 X w4 : World} {oa ob : Option Addr} {oca ocb : Nat} {vs zs : List Int} (hlo : lo ≤ b3) (h3 : w3.ownsRow b3 3 1 (.slice oa vs.length oca) vs.length (intVals vs)) (hX : Below w3.heap.size w3 X) (hb : Below X.heap.size X w4)
    (h4 : w4.ownsRow b4 3 1 (.slice ob zs.length ocb) zs.length (intVals zs)) (hb4 : w3.heap.size ≤ b4) (hl4 : lo ≤ b4 := by omega) : HeapIn lo w4.heap.size w4 oa oca ob ocb (intVals vs) (intVals zs) := by
  have hB := hX.trans (hb.mono hX.size)
  have k3 := own_keeps h3 hB
  refine ⟨?_, ?_, ?_⟩
  · rw [intVals_length]
    exact (OwnIn.of k3).mono hlo (Nat.le_refl _) (Nat.le_refl _)
  · rw [intVals_length]
    exact (OwnIn.of h4).mono hl4 (Nat.le_refl _) (Nat.le_refl _)
  · rw [intVals_length, intVals_length]
    intro j h1 h2
    have := (h3.lt j h1).2
    have := (h4.lt j h2).1
    omega
theorem exec_code {ss : List ByteArray} {k c : Int} {a b : ByteArray} {vs zs us ys : List Int} (h1 : stmtB ss k a b = true) (h2 : heapB (ss.length : Int) vs zs = true) (h : doS k (place ss a).toNat (place ss b).toNat vs zs = (c, us, ys)) (hc : ¬ c = 0) : execS ss k a b vs zs = badC c := by
  unfold execS
  rw [if_pos ⟨h1, h2⟩, h, if_neg hc]
theorem exec_leak {ss : List ByteArray} {k : Int} {a b : ByteArray} {vs zs us ys : List Int} (h1 : stmtB ss k a b = true) (h2 : heapB (ss.length : Int) vs zs = true) (h : doS k (place ss a).toNat (place ss b).toNat vs zs = (0, us, ys)) (hl : leakB us ys = true) : execS ss k a b vs zs = badC 4 := by
  unfold execS
  rw [if_pos ⟨h1, h2⟩, h, if_pos rfl, if_pos hl]
theorem exec_ok {ss : List ByteArray} {k : Int} {a b : ByteArray} {vs zs us ys : List Int} (h1 : stmtB ss k a b = true) (h2 : heapB (ss.length : Int) vs zs = true) (h : doS k (place ss a).toNat (place ss b).toNat vs zs = (0, us, ys)) (hl : leakB us ys = false) : execS ss k a b vs zs = (0, canonVs us ys, canonNs us ys) := by
  unfold execS
  rw [if_pos ⟨h1, h2⟩, h, if_pos rfl, if_neg (by simp [hl])]
/-- The answer is written into a box that lies ahead of the answer's rows. -/
theorem heap_res {lo hi Q : Nat} {w W : World} {a b : Option Addr} {ca cb : Nat} {vs zs : List Int} {u v : Value} (h : HeapIn lo hi W a ca b cb (intVals vs) (intVals zs)) (hB : Below w.heap.size w W) (hQ : w.heap.size ≤ Q) (hlo : Q < lo) :
    HeapIn w.heap.size ((W.setCell ⟨Q, 0, none⟩ u).setCell ⟨Q, 1, none⟩ v).heap.size ((W.setCell ⟨Q, 0, none⟩ u).setCell ⟨Q, 1, none⟩ v) a ca b cb (intVals vs) (intVals zs) ∧ Below w.heap.size w ((W.setCell ⟨Q, 0, none⟩ u).setCell ⟨Q, 1, none⟩ v) := by
  have hbl := h.blocks
  have hs : ((W.setCell ⟨Q, 0, none⟩ u).setCell ⟨Q, 1, none⟩ v).heap.size = W.heap.size := by simp
  refine ⟨?_, (hB.setCell hQ _).setCell hQ _⟩
  rw [hs]
  exact ((h.setNot (Q := Q) fun k hk => by have := hbl k hk; omega).setNot (Q := Q) fun k hk => by have := hbl k hk; omega).mono (by omega) h.v.1 (by rw [hs]; exact Nat.le_refl _)
theorem Box2.keepL {W : World} {Q : Nat} {x y : Value} (h0 : W.cell? ⟨Q, 0, none⟩ = some x) (h1 : W.cell? ⟨Q, 1, none⟩ = some y) : ∀ i u, [x, y][i]? = some u → W.cell? ⟨Q, i, none⟩ = some u
  | 0, u, hu => by obtain rfl := Option.some.inj hu; exact h0
  | 1, u, hu => by obtain rfl := Option.some.inj hu; exact h1
  | _ + 2, u, hu => by simp at hu
theorem box_of {W : World} {Q : Nat} {x y : Value} (hf : ∀ o, W.frozen? ⟨Q, o, none⟩ = false) (hl : Q < W.heap.size) (h0 : W.cell? ⟨Q, 0, none⟩ = some x) (h1 : W.cell? ⟨Q, 1, none⟩ = some y) : BoxL W Q [x, y] :=
  ⟨Box2.keepL h0 h1, hf, hl⟩
theorem turn_cell_ {lo hi : Nat} {p : Addr} {x : Value} {q : Prop} {W W' : World} (t : Turn lo hi W W') (hp : p.block < W.heap.size) (hd : p.block < lo ∨ hi ≤ p.block) (hx : W.cell? p = some x) (k : W'.cell? p = some x → q) : q := k ((World.cell?_of_block (t.block _ hp hd)).trans hx)
theorem turn_frozen_ {lo hi g : Nat} {q : Prop} {W W' : World} (t : Turn lo hi W W') (hp : g < W.heap.size) (hd : g < lo ∨ hi ≤ g) (hx : ∀ o, W.frozen? ⟨g, o, none⟩ = false) (k : (∀ o, W'.frozen? ⟨g, o, none⟩ = false) → q) : q := k fun o => (World.frozen?_of_block (t.block _ hp hd)).trans (hx o)
theorem keep_cell {B : Nat} {p : Addr} {x : Value} {q : Prop} {W W' : World} (hb : Below B W W') (hp : p.block < B) (hx : W.cell? p = some x) (k : W'.cell? p = some x → q) : q := k ((hb.cell hp).trans hx)
theorem keep_frozen {B g : Nat} {q : Prop} {W W' : World} (hb : Below B W W') (hp : g < B) (hx : ∀ o, W.frozen? ⟨g, o, none⟩ = false) (k : (∀ o, W'.frozen? ⟨g, o, none⟩ = false) → q) : q := k fun o => (hb.frozen (p := ⟨g, o, none⟩) hp).trans (hx o)
/-- An answer of Exec: a heap that the call made, a code. -/
def ExecEnd (r : Act3) (w : World) (e : Ending) (w' : World) : Prop :=
  ∃ a ca b cb, e = .returned (.tuple #[heV a r.2.1.length ca b r.2.2.length cb, .int .i64 r.1]) ∧ HeapIn w.heap.size w'.heap.size w' a ca b cb (intVals r.2.1) (intVals r.2.2) ∧ Below w.heap.size w w'
theorem exec_bad {k : Int} {w w' : World} (h : Below w.heap.size w w') : ExecEnd (badC k) w (.returned (.tuple #[heV none 0 0 none 0 0, .int .i64 k])) w' :=
  ⟨none, 0, none, 0, rfl, heapIn_nil (Nat.le_refl _), h⟩
theorem place_in {ss : List ByteArray} {s : ByteArray} (h : 0 ≤ place ss s) : place ss s < (ss.length : Int) := by
  unfold place at *
  have key : ∀ (l : List ByteArray) (k : Nat), 0 ≤ placeFrom s k l → placeFrom s k l < ((k + l.length : Nat) : Int) := by
    intro l
    induction l with
    | nil => intro k h; simp [placeFrom] at h
    | cons x l ih =>
      intro k h
      simp only [placeFrom, List.length_cons] at *
      split at h
      · rename_i hx
        rw [if_pos hx]
        omega
      · rename_i hx
        rw [if_neg hx]
        have := ih (k + 1) h
        omega
  have := key ss 0 h
  simpa using this
/-- What a valid statement says of its names. -/
theorem stmt_names {ss : List ByteArray} {k : Int} {a b : ByteArray} (h : stmtB ss k a b = true) : (1 ≤ k ∧ k ≤ 12) ∧ (1 ≤ namesN k → 0 ≤ place ss a) ∧ (2 ≤ namesN k → 0 ≤ place ss b) := by
  simp only [stmtB, Bool.and_eq_true, decide_eq_true_eq] at h
  obtain ⟨⟨⟨_, hn⟩, ha⟩, hb⟩ := h
  refine ⟨Classical.byContradiction fun hk => by rw [namesN_none hk] at hn; omega, fun h1 => ?_, fun h2 => ?_⟩
  · rw [decide_eq_true h1] at ha
    simpa [operandB] using ha
  · rw [decide_eq_true h2] at hb
    simpa [operandB] using hb

/-- What stands behind the copies of both rows: the frame, the copy in a box at Q. -/
def frame3 (va : Option Addr) (vc : Nat) (ss : List ByteArray) (k : Int) (sa sb : ByteArray) (a b : Option Addr) (ca cb : Nat) (vs zs : List Int) (B Q : Nat) (oa : Option Addr) (oca : Nat) (ob : Option Addr) (ocb : Nat) : Act :=
  { tmps := #[.slice va ss.length vc, stV k sa sb, heV a vs.length ca b zs.length cb, undef, .pointer (some ⟨B, 0, none⟩), .pointer (some ⟨B + 1, 0, none⟩), .pointer (some ⟨B + 1 + 1, 0, none⟩), .int .i64 0, .pointer (some ⟨Q, 0, none⟩), undef, undef, .slice va ss.length vc, .agg #[.int .i64 k, .string sa, .string sb], .bool true, .bool false, .bool false, .slice va ss.length vc, .int .i64 (ss.length : Int), .agg #[.slice a vs.length ca, .slice b zs.length cb], .bool true, .bool false, .bool false, undef, .pointer (some ⟨B + 1, 0, none⟩), .slice a vs.length ca, .slice oa vs.length oca, .pointer (some ⟨B + 1, 1, none⟩), .slice b zs.length cb, .slice ob zs.length ocb, .agg #[.slice oa vs.length oca, .slice ob zs.length ocb], undef, undef, undef, undef, undef, undef, undef, undef, undef, undef, undef, undef, undef, undef, undef, undef, undef, undef, undef, undef, undef, undef, undef, undef, undef], defers := [] }
structure Own3 (W0 W : World) (lo Q : Nat) (oa : Option Addr) (oca : Nat) (ob : Option Addr) (ocb : Nat) (vs zs : List Int) : Prop where
  hin : HeapIn lo W.heap.size W oa oca ob ocb (intVals vs) (intVals zs)
  box : BoxL W Q [.slice oa vs.length oca, .slice ob zs.length ocb]
  below : Below W0.heap.size W0 W
  hne : ¬ blocksH oa ob vs.length oca zs.length ocb Q
  hlo : lo ≤ W.heap.size
def After3 (F : Nat → Option Addr → Nat → Option Addr → Nat → Act) (W0 : World) (lo : Nat) (vs zs : List Int) (e : Exit) (act : Act) (W : World) : Prop :=
  e = .normal ∧ ∃ Q oa oca ob ocb, act = F Q oa oca ob ocb ∧ Own3 W0 W lo Q oa oca ob ocb vs zs
/-- What stands behind the action: what it answered, in a box at R. -/
def frame4 (va : Option Addr) (vc : Nat) (ss : List ByteArray) (k : Int) (sa sb : ByteArray) (a b : Option Addr) (ca cb : Nat) (vs zs : List Int) (B Q : Nat) (oa : Option Addr) (oca : Nat) (ob : Option Addr) (ocb : Nat) (c9 : Int) (us ys : List Int) (R : Nat) (f6 : FuncId) (caps6 : Array Value) (xa : Option Addr) (xca : Nat) (xb : Option Addr) (xcb : Nat) : Act :=
  { tmps := #[.slice va ss.length vc, stV k sa sb, heV a vs.length ca b zs.length cb, undef, .pointer (some ⟨B, 0, none⟩), .pointer (some ⟨B + 1, 0, none⟩), .pointer (some ⟨B + 1 + 1, 0, none⟩), .int .i64 0, .pointer (some ⟨Q, 0, none⟩), .pointer (some ⟨R, 0, none⟩), .int .i64 c9, .slice va ss.length vc, .agg #[.int .i64 k, .string sa, .string sb], .bool true, .bool false, .bool false, .slice va ss.length vc, .int .i64 (ss.length : Int), .agg #[.slice a vs.length ca, .slice b zs.length cb], .bool true, .bool false, .bool false, undef, .pointer (some ⟨B + 1, 0, none⟩), .slice a vs.length ca, .slice oa vs.length oca, .pointer (some ⟨B + 1, 1, none⟩), .slice b zs.length cb, .slice ob zs.length ocb, .agg #[.slice oa vs.length oca, .slice ob zs.length ocb], .tuple #[heV xa us.length xca xb ys.length xcb, .int .i64 c9], .pointer (some ⟨B, 0, none⟩), .int .i64 k, .func (.func f6) #[] caps6, .agg #[.slice oa vs.length oca, .slice ob zs.length ocb], .slice va ss.length vc, .pointer (some ⟨B, 1, none⟩), .string sa, .int .i64 (place ss sa), .slice va ss.length vc, .pointer (some ⟨B, 2, none⟩), .string sb, .int .i64 (place ss sb), .tuple #[heV xa us.length xca xb ys.length xcb, .int .i64 c9], heV xa us.length xca xb ys.length xcb, .int .i64 c9, undef, undef, undef, undef, undef, undef, undef, undef, undef], defers := [] }
structure Own4 (w W : World) (R : Nat) (xa : Option Addr) (xca : Nat) (xb : Option Addr) (xcb : Nat) (us ys : List Int) : Prop where
  hin : HeapAt W xa xb us ys
  box : BoxL W R [.slice xa us.length xca, .slice xb ys.length xcb]
  res : BoxL W (w.heap.size + 2) [.slice none 0 0, .slice none 0 0]
  below : Below w.heap.size w W
def After4 (F : Nat → FuncId → Array Value → Option Addr → Nat → Option Addr → Nat → Act) (w : World) (us ys : List Int) (e : Exit) (act : Act) (W : World) : Prop :=
  e = .normal ∧ ∃ R f6 caps6 xa xca xb xcb, act = F R f6 caps6 xa xca xb xcb ∧ Own4 w W R xa xca xb xcb us ys
set_option maxRecDepth 100000 in
set_option maxHeartbeats 8000000 in
theorem implExec (va : Option Addr) (vc : Nat) (ss : List ByteArray) (k : Int) (sa sb : ByteArray) (a b : Option Addr) (ca cb : Nat) (vs zs : List Int) (w : World) (hlen : ss.length ≤ maxLen) (hws : ∀ s ∈ ss, s.size ≤ maxLen) (hrow : Row w w.heap.size va (strVals ss))
    (hv : vs.length ≤ maxLen) (hz : zs.length ≤ maxLen) (h : HeapAt w a b vs zs) (hT : HasNamesTable w) :
    Calls Tryd.prog 8 #[.slice va ss.length vc, stV k sa sb, heV a vs.length ca b zs.length cb] w (ExecEnd (execS ss k sa sb vs zs) w) := by
  obtain ⟨W0, hW0, hb0, bs0, bh0, br0⟩ := three_boxL w [.int .i64 k, .string sa, .string sb] [.slice a vs.length ca, .slice b zs.length cb] [.slice none 0 0, .slice none 0 0] 26 29 29
  replace hW0 : (((w.alloc (.cells #[.int .i64 k, .string sa, .string sb] 26)).alloc (.cells #[.slice a vs.length ca, .slice b zs.length cb] 29)).alloc (.cells #[.slice none 0 0, .slice none 0 0] 29)) = W0 := hW0
  have hA : ∀ W, Below W0.heap.size W0 W → BoxL W w.heap.size [.int .i64 k, .string sa, .string sb] ∧ BoxL W (w.heap.size + 1) [.slice a vs.length ca, .slice b zs.length cb] ∧ BoxL W (w.heap.size + 2) [.slice none 0 0, .slice none 0 0] ∧ HeapAt W a b vs zs ∧ Row W W.heap.size va (strVals ss) ∧ HasNamesTable W ∧ Below w.heap.size w W := fun W hb =>
    have hbw := hb0.trans (hb.mono hb0.size)
    ⟨bs0.below hb, bh0.below hb, br0.below hb, h.below hbw (Nat.le_refl _), (hrow.below hbw).grow hbw.size, hT.keeps hbw, hbw⟩
  have HA := Lib.hid hA
  clear hA h hrow hT bs0 bh0 br0
  obtain ⟨b1, b2, b3, hh, hr, ht, hB⟩ := HA.out _ (Below.refl _ _)
  have s0 := b1.c 0 _ rfl
  have s1 := b1.c 1 _ rfl
  have s2 := b1.c 2 _ rfl
  have q0 := b2.c 0 _ rfl
  have q1 := b2.c 1 _ rfl
  go_enter Tryd.func8, Tryd.ntmps8
  go_wp2_with fail
  clear hW0
  refine (implIsStmt va vc ss k sa sb _ hlen hws hr ht).mono ?_
  rintro e w1 ⟨rfl, hb1⟩
  clear b1 b2 b3 hh hr ht hB s0 s1 s2 q0 q1
  obtain ⟨b1, b2, b3, hh, hr, ht, hB⟩ := HA.out _ hb1
  have r0 := b3.c 0 _ rfl
  have r1 := b3.c 1 _ rfl
  have rf := b3.f
  have rl := b3.lt
  cases hst : stmtB ss k sa sb with
  | false =>
    have HR := Lib.hid (show execS ss k sa sb vs zs = badC 7 from (if_neg (by simp [hst])))
    clear hst b1 b2
    go_wp2
    refine bodyPost_ret (v := .tuple #[heV none 0 0 none 0 0, .int .i64 7]) (by simp [results, Tryd.results8, go_sem, r0, r1]) rfl ?_
    rw [HR.out]
    refine exec_bad ?_
    repeat (first | with_reducible exact hB | refine Below.setCell ?_ (by go_size) _)
  | true =>
    have q0 := b2.c 0 _ rfl
    have q1 := b2.c 1 _ rfl
    go_wp2_with fail
    refine (implIsHeap (ss.length : Int) a b ca cb vs zs _ hv hz hh).mono ?_
    rintro e w2 ⟨rfl, hb2⟩
    have hb2 := hb1.trans (hb2.mono hb1.size)
    clear b1 b2 b3 hh hr ht hB r0 r1 rf rl q0 q1 hb1
    obtain ⟨b1, b2, b3, hh, hr, ht, hB⟩ := HA.out _ hb2
    have r0 := b3.c 0 _ rfl
    have r1 := b3.c 1 _ rfl
    have rf := b3.f
    have rl := b3.lt
    cases hhp : heapB (ss.length : Int) vs zs with
    | false =>
      have HR := Lib.hid (show execS ss k sa sb vs zs = badC 7 from (if_neg (by simp [hhp])))
      clear hst hhp b1 b2
      go_wp2
      refine bodyPost_ret (v := .tuple #[heV none 0 0 none 0 0, .int .i64 7]) (by simp [results, Tryd.results8, go_sem, r0, r1]) rfl ?_
      rw [HR.out]
      refine exec_bad ?_
      repeat (first | with_reducible exact hB | refine Below.setCell ?_ (by go_size) _)
    | true =>
      obtain ⟨hvl, hz6, hgv, hgz, _⟩ := heapB_parts hhp
      obtain ⟨hk, hpa, hpb⟩ := stmt_names hst
      have HST := Lib.hid hst
      have HHP := Lib.hid hhp
      have hvl4 : vs.length ≤ 4 := hvl.2.1
      have hvss : vs.length = ss.length := by omega
      clear hst hhp r0 r1 rf b1 b3 ht
      have HPA := Lib.hid (show 1 ≤ namesN k → 0 ≤ place ss sa ∧ place ss sa < (vs.length : Int) from fun h1 => ⟨hpa h1, by have := place_in (hpa h1); omega⟩)
      have HPB := Lib.hid (show 2 ≤ namesN k → 0 ≤ place ss sb ∧ place ss sb < (vs.length : Int) from fun h1 => ⟨hpb h1, by have := place_in (hpb h1); omega⟩)
      clear hpa hpb hvl hvss
      have hD : Below W0.heap.size W0 w2.drew := hb2.drew
      have hz2 : W0.heap.size ≤ w2.heap.size := hb2.size
      obtain ⟨lo, hlo1, hlo2⟩ : ∃ lo, lo ≤ w2.heap.size ∧ w.heap.size + 2 < lo := ⟨w2.heap.size, Nat.le_refl _, rl⟩
      have hS : ∀ W, Below W0.heap.size W0 W → W.cell? ⟨w.heap.size + 1, 0, none⟩ = some (.slice a vs.length ca) ∧ W.cell? ⟨w.heap.size + 1, 1, none⟩ = some (.slice b zs.length cb) := fun W hb => ⟨(HA.out W hb).2.1.c 0 _ rfl, (HA.out W hb).2.1.c 1 _ rfl⟩
      have HS := Lib.hid hS
      clear hS
      go_wp2
      refine Code.wp_mono (Q := After3 (frame3 va vc ss k sa sb a b ca cb vs zs w.heap.size) W0 lo vs zs) ?tail3 ?region3
      case' region3 =>
        go_region_held3 (fun W => W.cell? ⟨w.heap.size + 1, 0, none⟩ = some (.slice a vs.length ca) ∧ W.cell? ⟨w.heap.size + 1, 1, none⟩ = some (.slice b zs.length cb))
          (first | exact HS.out _ (by repeat (first | with_reducible assumption | with_reducible refine Below.drew ?_ | with_reducible refine Below.setCell ?_ (by go_size) _ | with_reducible refine Below.alloc ?_ (by go_size) _)))
          (first
            | (go_at_call 38; (with_reducible refine (libClone a ca vs _ (by omega) (HA.out _ (by repeat (first | with_reducible assumption | with_reducible refine Below.drew ?_ | with_reducible refine Below.setCell ?_ (by go_size) _ | with_reducible refine Below.alloc ?_ (by go_size) _))).2.2.2.1.v).mono ?_); rintro e w3 ⟨oa, oca, rfl, ho3, hb3⟩; (try (refine keep_cell (p := ⟨w2.heap.size, 0, none⟩) (x := .slice none 0 0) hb3 ?_ ?_ (fun e30 => ?_); (focus (first | go_size | omega)); (focus (first | (simp [go_sem]; done))))); (try (refine keep_frozen (g := w2.heap.size) hb3 ?_ ?_ (fun f30 => ?_); (focus (first | go_size | omega)); (focus (first | (simp [go_sem]; done))))); (try (refine keep_cell (p := ⟨w2.heap.size, 1, none⟩) (x := .slice none 0 0) hb3 ?_ ?_ (fun e31 => ?_); (focus (first | go_size | omega)); (focus (first | (simp [go_sem]; done))))); have hz3 := hb3.size; (try simp [World.size_alloc, World.size_drew] at hz3); have H3 : Below W0.heap.size W0 w3 := Below.trans (by repeat (first | with_reducible assumption | with_reducible refine Below.drew ?_ | with_reducible refine Below.setCell ?_ (by go_size) _ | with_reducible refine Below.alloc ?_ (by go_size) _)) (hb3.mono (by go_size)))
            | (go_at_call 38; (with_reducible refine (libClone b cb zs _ (by omega) (HA.out _ (by repeat (first | with_reducible assumption | with_reducible refine Below.drew ?_ | with_reducible refine Below.setCell ?_ (by go_size) _ | with_reducible refine Below.alloc ?_ (by go_size) _))).2.2.2.1.z).mono ?_); rintro e w4 ⟨ob, ocb, rfl, ho4, hb4⟩; have hz4 := hb4.size; (try simp [World.size_alloc] at hz4); (try (refine keep_cell (p := ⟨w2.heap.size, 0, none⟩) (x := .slice none 0 0) hb4 ?_ ?_ (fun e40 => ?_); (focus (first | go_size | omega)); (focus (first | (simp [go_sem]; done) | exact e30)))); (try (refine keep_frozen (g := w2.heap.size) hb4 ?_ ?_ (fun f40 => ?_); (focus (first | go_size | omega)); (focus (first | (simp [go_sem]; done) | exact f30)))); (try (refine keep_cell (p := ⟨w2.heap.size, 1, none⟩) (x := .slice none 0 0) hb4 ?_ ?_ (fun e41 => ?_); (focus (first | go_size | omega)); (focus (first | (simp [go_sem]; done) | exact e31)))); (try (refine keep_cell (p := ⟨w3.heap.size, 0, none⟩) (x := .slice none 0 0) hb4 ?_ ?_ (fun e50 => ?_); (focus (first | go_size | omega)); (focus (first | (simp [go_sem]; done))))); (try (refine keep_frozen (g := w3.heap.size) hb4 ?_ ?_ (fun f50 => ?_); (focus (first | go_size | omega)); (focus (first | (simp [go_sem]; done))))); (try (refine keep_cell (p := ⟨w3.heap.size, 1, none⟩) (x := .slice none 0 0) hb4 ?_ ?_ (fun e51 => ?_); (focus (first | go_size | omega)); (focus (first | (simp [go_sem]; done))))); have H4 : Below W0.heap.size W0 w4 := Below.trans (by repeat (first | with_reducible assumption | with_reducible refine Below.drew ?_ | with_reducible refine Below.setCell ?_ (by go_size) _ | with_reducible refine Below.alloc ?_ (by go_size) _)) (hb4.mono (by go_size))))
        all_goals have hz40 : W0.heap.size ≤ w4.heap.size := by omega
        have hin4 := heapIn_two (lo := lo) (by go_size) ho3 (Below.refl _ _) hb4 ho4 (Nat.le_refl _) (by go_size)
        have hb5 := (Below.refl w4.heap.size w4).alloc (Nat.le_refl _) (.cells #[.slice oa vs.length oca, .slice ob zs.length ocb] 29)
        have hin5 := (hin4.below hb5).mono (hi' := (w4.alloc (.cells #[.slice oa vs.length oca, .slice ob zs.length ocb] 29)).heap.size) (Nat.le_refl _) (by go_size) (Nat.le_refl _)
        have box5 := BoxL.new w4 [.slice oa vs.length oca, .slice ob zs.length ocb] 29
        have H5 := H4.trans (hb5.mono hz40)
        replace box5 : BoxL (w4.alloc (.cells #[.slice oa vs.length oca, .slice ob zs.length ocb] 29)) w4.heap.size [.slice oa vs.length oca, .slice ob zs.length ocb] := box5
        have hs5 : w2.heap.size ≤ (w4.alloc (.cells #[.slice oa vs.length oca, .slice ob zs.length ocb] 29)).heap.size := by go_size
        have hne : ¬ blocksH oa ob vs.length oca zs.length ocb w4.heap.size := fun e => by have := hin4.blocks _ e; omega
        exact ⟨rfl, _, oa, oca, ob, ocb, rfl, hin5, box5, H5, hne, by omega⟩
        have hfz : ∀ o, w4.frozen? ⟨w3.heap.size, o, none⟩ = false := by assumption
        have hin4 := heapIn_two (lo := lo) (by go_size) ho3 ((Below.refl _ _).alloc (Nat.le_refl _) _) hb4 ho4 (by go_size) (by go_size)
        have hne : ∀ k, blocksH oa ob vs.length oca zs.length ocb k → k ≠ w3.heap.size := by
          rintro k (e | e)
          · have := ho3.lt k e
            (try simp at this)
            omega
          · have := ho4.lt k e
            (try simp at this)
            omega
        have hs4 : ((w4.setCell ⟨w3.heap.size, 0, none⟩ (.slice oa vs.length oca)).setCell ⟨w3.heap.size, 1, none⟩ (.slice ob zs.length ocb)).heap.size = w4.heap.size := by simp
        have hin5 := ((hin4.setNot (i := 0) (u := .slice oa vs.length oca) hne).setNot (i := 1) (u := .slice ob zs.length ocb) hne).mono (hi' := ((w4.setCell ⟨w3.heap.size, 0, none⟩ (.slice oa vs.length oca)).setCell ⟨w3.heap.size, 1, none⟩ (.slice ob zs.length ocb)).heap.size) (Nat.le_refl _) (by omega) (Nat.le_refl _)
        have box4 : BoxL w4 w3.heap.size [.slice none 0 0, .slice none 0 0] := box_of hfz (by omega) (by assumption) (by assumption)
        have box5 : BoxL ((w4.setCell ⟨w3.heap.size, 0, none⟩ (.slice oa vs.length oca)).setCell ⟨w3.heap.size, 1, none⟩ (.slice ob zs.length ocb)) w3.heap.size [.slice oa vs.length oca, .slice ob zs.length ocb] := (box4.set 0 (.slice oa vs.length oca)).set 1 (.slice ob zs.length ocb)
        have H5 : Below W0.heap.size W0 ((w4.setCell ⟨w3.heap.size, 0, none⟩ (.slice oa vs.length oca)).setCell ⟨w3.heap.size, 1, none⟩ (.slice ob zs.length ocb)) := (H4.setCell (by show W0.heap.size ≤ w3.heap.size; omega) _).setCell (by show W0.heap.size ≤ w3.heap.size; omega) _
        have hs5 : w2.heap.size ≤ ((w4.setCell ⟨w3.heap.size, 0, none⟩ (.slice oa vs.length oca)).setCell ⟨w3.heap.size, 1, none⟩ (.slice ob zs.length ocb)).heap.size := by omega
        exact ⟨rfl, _, oa, oca, ob, ocb, rfl, hin5, box5, H5, fun e => hne _ e rfl, by omega⟩
        have hfz : ∀ o, w4.frozen? ⟨w2.heap.size, o, none⟩ = false := by assumption
        have hin4 := heapIn_two (lo := lo) (by go_size) ho3 (Below.refl _ _) hb4 ho4 (Nat.le_refl _) (by go_size)
        have hne : ∀ k, blocksH oa ob vs.length oca zs.length ocb k → k ≠ w2.heap.size := by
          rintro k (e | e)
          · have := ho3.lt k e
            (try simp at this)
            omega
          · have := ho4.lt k e
            (try simp at this)
            omega
        have hs4 : ((w4.setCell ⟨w2.heap.size, 0, none⟩ (.slice oa vs.length oca)).setCell ⟨w2.heap.size, 1, none⟩ (.slice ob zs.length ocb)).heap.size = w4.heap.size := by simp
        have hin5 := ((hin4.setNot (i := 0) (u := .slice oa vs.length oca) hne).setNot (i := 1) (u := .slice ob zs.length ocb) hne).mono (hi' := ((w4.setCell ⟨w2.heap.size, 0, none⟩ (.slice oa vs.length oca)).setCell ⟨w2.heap.size, 1, none⟩ (.slice ob zs.length ocb)).heap.size) (Nat.le_refl _) (by omega) (Nat.le_refl _)
        have box4 : BoxL w4 w2.heap.size [.slice none 0 0, .slice none 0 0] := box_of hfz (by omega) (by assumption) (by assumption)
        have box5 : BoxL ((w4.setCell ⟨w2.heap.size, 0, none⟩ (.slice oa vs.length oca)).setCell ⟨w2.heap.size, 1, none⟩ (.slice ob zs.length ocb)) w2.heap.size [.slice oa vs.length oca, .slice ob zs.length ocb] := (box4.set 0 (.slice oa vs.length oca)).set 1 (.slice ob zs.length ocb)
        have H5 : Below W0.heap.size W0 ((w4.setCell ⟨w2.heap.size, 0, none⟩ (.slice oa vs.length oca)).setCell ⟨w2.heap.size, 1, none⟩ (.slice ob zs.length ocb)) := (H4.setCell (by show W0.heap.size ≤ w2.heap.size; omega) _).setCell (by show W0.heap.size ≤ w2.heap.size; omega) _
        have hs5 : w2.heap.size ≤ ((w4.setCell ⟨w2.heap.size, 0, none⟩ (.slice oa vs.length oca)).setCell ⟨w2.heap.size, 1, none⟩ (.slice ob zs.length ocb)).heap.size := by omega
        exact ⟨rfl, _, oa, oca, ob, ocb, rfl, hin5, box5, H5, fun e => hne _ e rfl, by omega⟩
      case' tail3 =>
        rintro e act W5 ⟨rfl, Q, oa, oca, ob, ocb, rfl, hin5, box5, H5, hne, hs5⟩
        clear HS hb2 b2 hh hr hB hD hz2
        unfold frame3
        have hQ5 := box5.lt
        have hz40 : W0.heap.size ≤ W5.heap.size := H5.size
        have y0 := box5.c 0 _ rfl
        have y1 := box5.c 1 _ rfl
        have BOX5 := Lib.hid box5
        have hS : ∀ W, Below W5.heap.size W5 W → (W.cell? ⟨w.heap.size, 0, none⟩ = some (.int .i64 k) ∧ W.cell? ⟨w.heap.size, 1, none⟩ = some (.string sa) ∧ W.cell? ⟨w.heap.size, 2, none⟩ = some (.string sb)) ∧ (W.cell? ⟨Q, 0, none⟩ = some (.slice oa vs.length oca) ∧ W.cell? ⟨Q, 1, none⟩ = some (.slice ob zs.length ocb)) := fun W hb =>
          have hx := (HA.out W (H5.trans (hb.mono H5.size))).1
          ⟨⟨hx.c 0 _ rfl, hx.c 1 _ rfl, hx.c 2 _ rfl⟩, ((BOX5.out.below hb).c 0 _ rfl), ((BOX5.out.below hb).c 1 _ rfl)⟩
        have HS5 := Lib.hid hS
        have HR5 := Lib.hid (fun W (hb : Below W5.heap.size W5 W) => (HA.out W (H5.trans (hb.mono H5.size))).2.2.2.2.1)
        have hD5 : Below W5.heap.size W5 W5.drew := Below.drew (Below.refl _ _)
        have HIN := Lib.hid hin5
        obtain ⟨c9, us, ys, hdo⟩ : ∃ c us ys, doS k (place ss sa).toNat (place ss sb).toNat vs zs = (c, us, ys) := ⟨_, _, _, rfl⟩
        have HDO := Lib.hid hdo
        have hT9 : ∀ W, (∃ X Y, Below W5.heap.size W5 X ∧ TurnB lo W5.heap.size (blocksH oa ob vs.length oca zs.length ocb) X Y ∧ Below W5.heap.size Y W) → (W.cell? ⟨w.heap.size, 0, none⟩ = some (.int .i64 k) ∧ W.cell? ⟨w.heap.size, 1, none⟩ = some (.string sa) ∧ W.cell? ⟨w.heap.size, 2, none⟩ = some (.string sb)) ∧ (W.cell? ⟨Q, 0, none⟩ = some (.slice oa vs.length oca) ∧ W.cell? ⟨Q, 1, none⟩ = some (.slice ob zs.length ocb)) := by
          rintro W ⟨X, Y, hX, tX, hY⟩
          have hx := (HA.out X (H5.trans (hX.mono H5.size))).1.turn tX.t (.inl (by omega))
          have hy := (BOX5.out.below hX).turnB tX hne
          have e0 : ∀ o, W.cell? ⟨w.heap.size, o, none⟩ = Y.cell? ⟨w.heap.size, o, none⟩ := fun o => hY.cell (p := ⟨w.heap.size, o, none⟩) (by show w.heap.size < _; omega)
          have e1 : ∀ o, W.cell? ⟨Q, o, none⟩ = Y.cell? ⟨Q, o, none⟩ := fun o => hY.cell (p := ⟨Q, o, none⟩) hQ5
          exact ⟨⟨(e0 _).trans (hx.c 0 _ rfl), (e0 _).trans (hx.c 1 _ rfl), (e0 _).trans (hx.c 2 _ rfl)⟩, (e1 _).trans (hy.c 0 _ rfl), (e1 _).trans (hy.c 1 _ rfl)⟩
        have HT9 := Lib.hid hT9
        clear hS hin5 hdo hT9 box5
        go_wp2
        refine Code.wp_mono (Q := After4 (frame4 va vc ss k sa sb a b ca cb vs zs w.heap.size Q oa oca ob ocb c9 us ys) w us ys) ?tail4 ?region4
        case' region4 =>
          go_region_held3 (fun W => (W.cell? ⟨w.heap.size, 0, none⟩ = some (.int .i64 k) ∧ W.cell? ⟨w.heap.size, 1, none⟩ = some (.string sa) ∧ W.cell? ⟨w.heap.size, 2, none⟩ = some (.string sb)) ∧ (W.cell? ⟨Q, 0, none⟩ = some (.slice oa vs.length oca) ∧ W.cell? ⟨Q, 1, none⟩ = some (.slice ob zs.length ocb)))
            (first | (refine HT9.out _ ⟨_, _, ?_, t9, ?_⟩ <;> (repeat (first | with_reducible exact Below.refl _ _ | with_reducible assumption | with_reducible refine Below.drew ?_ | with_reducible refine Below.setCell ?_ (by go_size) _ | with_reducible refine Below.alloc ?_ (by go_size) _)); done) | (refine HS5.out _ ?_; (repeat (first | with_reducible exact Below.refl _ _ | with_reducible assumption | with_reducible refine Below.drew ?_ | with_reducible refine Below.setCell ?_ (by go_size) _ | with_reducible refine Below.alloc ?_ (by go_size) _)); done))
            (first
              | (go_at_call 39; (with_reducible refine (implActionOf k hk _).mono ?_); rintro e w6 ⟨f6, caps6, rfl, hact, hb6, henter⟩; have HACT := Lib.hid hact; clear hact; have hz6' := hb6.size; (try simp [World.size_alloc, World.size_drew] at hz6'); (try (refine keep_cell (p := ⟨Q, 0, none⟩) (x := .slice oa vs.length oca) hb6 ?_ ?_ (fun y60 => ?_); (focus (first | go_size | omega)); (focus (first | (simp [go_sem]; done) | exact y0)))); (try (refine keep_cell (p := ⟨Q, 1, none⟩) (x := .slice ob zs.length ocb) hb6 ?_ ?_ (fun y61 => ?_); (focus (first | go_size | omega)); (focus (first | (simp [go_sem]; done) | exact y1)))); (try (refine keep_cell (p := ⟨W5.heap.size, 0, none⟩) (x := .slice none 0 0) hb6 ?_ ?_ (fun z60 => ?_); (focus (first | go_size | omega)); (focus (first | (simp [go_sem]; done))))); (try (refine keep_frozen (g := W5.heap.size) hb6 ?_ ?_ (fun g60 => ?_); (focus (first | go_size | omega)); (focus (first | (simp [go_sem]; done))))); (try (refine keep_cell (p := ⟨W5.heap.size, 1, none⟩) (x := .slice none 0 0) hb6 ?_ ?_ (fun z61 => ?_); (focus (first | go_size | omega)); (focus (first | (simp [go_sem]; done))))); have H6 : Below W5.heap.size W5 w6 := Below.trans (by repeat (first | with_reducible exact Below.refl _ _ | with_reducible assumption | with_reducible refine Below.drew ?_ | with_reducible refine Below.setCell ?_ (by go_size) _ | with_reducible refine Below.alloc ?_ (by go_size) _)) (hb6.mono (by go_size)))
              | (go_at_call 40; (with_reducible refine (implIndexOf va vc ss sa _ hlen (HR5.out _ (by repeat (first | with_reducible exact Below.refl _ _ | with_reducible assumption | with_reducible refine Below.drew ?_ | with_reducible refine Below.setCell ?_ (by go_size) _ | with_reducible refine Below.alloc ?_ (by go_size) _)))).mono ?_); rintro e w7 ⟨rfl, rfl⟩)
              | (go_at_call 40; (with_reducible refine (implIndexOf va vc ss sb _ hlen (HR5.out _ (by repeat (first | with_reducible exact Below.refl _ _ | with_reducible assumption | with_reducible refine Below.drew ?_ | with_reducible refine Below.setCell ?_ (by go_size) _ | with_reducible refine Below.alloc ?_ (by go_size) _)))).mono ?_); rintro e w7 ⟨rfl, rfl⟩)
              | ((refine (HACT.out _ lo W5.heap.size oa oca ob ocb vs zs (place ss sa) (place ss sb) (by repeat (first | with_reducible exact Below.refl _ _ | with_reducible refine Below.drew ?_ | with_reducible refine Below.alloc ?_ (by go_size) _)) (HIN.out.below (by repeat (first | with_reducible exact Below.refl _ _ | with_reducible assumption | with_reducible refine Below.drew ?_ | with_reducible refine Below.setCell ?_ (by go_size) _ | with_reducible refine Below.alloc ?_ (by go_size) _))) hvl4 hz6 hgv hgz HPA.out HPB.out).mono ?_); rw [HDO.out]; rintro e w9 ⟨xa, xca, xb, xcb, rfl, hin9, t9, hbl9⟩; have hz9 := t9.size; (try simp [World.size_alloc] at hz9); (try (refine turn_cell_ (p := ⟨W5.heap.size, 0, none⟩) (x := .slice none 0 0) t9.t ?_ ?_ ?_ (fun z90 => ?_); (focus (first | go_size | omega)); (focus (right; (first | go_size | omega))); (focus (first | (simp [go_sem]; done) | exact z60)))); (try (refine turn_frozen_ (g := W5.heap.size) t9.t ?_ ?_ ?_ (fun g90 => ?_); (focus (first | go_size | omega)); (focus (right; (first | go_size | omega))); (focus (first | (simp [go_sem]; done) | exact g60)))); (try (refine turn_cell_ (p := ⟨w6.heap.size, 0, none⟩) (x := .slice none 0 0) t9.t ?_ ?_ ?_ (fun u90 => ?_); (focus (first | go_size | omega)); (focus (right; (first | go_size | omega))); (focus (first | (simp [go_sem]; done))))); (try (refine turn_frozen_ (g := w6.heap.size) t9.t ?_ ?_ ?_ (fun v90 => ?_); (focus (first | go_size | omega)); (focus (right; (first | go_size | omega))); (focus (first | (simp [go_sem]; done))))); (try (refine turn_cell_ (p := ⟨W5.heap.size, 1, none⟩) (x := .slice none 0 0) t9.t ?_ ?_ ?_ (fun z91 => ?_); (focus (first | go_size | omega)); (focus (right; (first | go_size | omega))); (focus (first | (simp [go_sem]; done) | exact z61)))); (try (refine turn_cell_ (p := ⟨w6.heap.size, 1, none⟩) (x := .slice none 0 0) t9.t ?_ ?_ ?_ (fun u91 => ?_); (focus (first | go_size | omega)); (focus (right; (first | go_size | omega))); (focus (first | (simp [go_sem]; done))))); skip))
          all_goals
            have hinB := HIN.out.blocks
            have h65 := H6.size
            have hbase : ∃ X, Below W5.heap.size W5 X ∧ TurnB lo W5.heap.size (blocksH oa ob vs.length oca zs.length ocb) X w9 ∧ w6.heap.size ≤ X.heap.size := ⟨_, (by repeat (first | with_reducible exact Below.refl _ _ | with_reducible assumption | with_reducible refine Below.drew ?_ | with_reducible refine Below.setCell ?_ (by go_size) _ | with_reducible refine Below.alloc ?_ (by go_size) _)), t9, by go_size⟩
            obtain ⟨X9, hX9, tX9, hX6⟩ := hbase
            have hB9 : Below w.heap.size w w9 := tX9.t.below (HA.out _ (H5.trans (hX9.mono H5.size))).2.2.2.2.2.2 (by omega) (Nat.le_trans (by omega) hX9.size)
            have hres9 : BoxL w9 (w.heap.size + 2) [.slice none 0 0, .slice none 0 0] := (HA.out _ (H5.trans (hX9.mono H5.size))).2.2.1.turn tX9.t (.inl (by omega))
            have hXs := tX9.size
            have hdl := doS_fine k (place ss sa).toNat (place ss sb).toNat vs zs
            rw [HDO.out] at hdl
            have hul : us.length ≤ 1048576 := by have := hdl.2.1; simp at this; omega
            have hyl : ys.length ≤ 1048576 := by have := hdl.2.2; simp at this; omega
            clear hdl
            first
              | (have box9 : BoxL w9 W5.heap.size [.slice none 0 0, .slice none 0 0] := box_of (by assumption) (by go_size) (by assumption) (by assumption)
                 have hneR : ∀ k, blocksH xa xb us.length xca ys.length xcb k → k ≠ W5.heap.size := (fun k hk e => by
                   rcases hbl9 k hk with q | q
                   · have := hinB _ q
                     omega
                   · (try simp at q)
                     omega)
                 have hinR := ((hin9.setNot (i := 0) (u := .slice xa us.length xca) hneR).setNot (i := 1) (u := .slice xb ys.length xcb) hneR)
                 have boxR := (box9.set 0 (.slice xa us.length xca)).set 1 (.slice xb ys.length xcb)
                 have hresR : BoxL ((w9.setCell ⟨W5.heap.size, 0, none⟩ (.slice xa us.length xca)).setCell ⟨W5.heap.size, 1, none⟩ (.slice xb ys.length xcb)) (w.heap.size + 2) [.slice none 0 0, .slice none 0 0] := (hres9.turn (turn_set w9 W5.heap.size 0 (.slice xa us.length xca)) (.inl (by omega))).turn (turn_set _ W5.heap.size 1 (.slice xb ys.length xcb)) (.inl (by omega))
                 have hBR : Below w.heap.size w ((w9.setCell ⟨W5.heap.size, 0, none⟩ (.slice xa us.length xca)).setCell ⟨W5.heap.size, 1, none⟩ (.slice xb ys.length xcb)) := (hB9.setCell (by show w.heap.size ≤ W5.heap.size; omega) _).setCell (by show w.heap.size ≤ W5.heap.size; omega) _
                 skip)
              | (have box9 : BoxL w9 w6.heap.size [.slice none 0 0, .slice none 0 0] := box_of (by assumption) (by go_size) (by assumption) (by assumption)
                 have hneR : ∀ k, blocksH xa xb us.length xca ys.length xcb k → k ≠ w6.heap.size := (fun k hk e => by
                   rcases hbl9 k hk with q | q
                   · have := hinB _ q
                     omega
                   · (try simp at q)
                     omega)
                 have hinR := ((hin9.setNot (i := 0) (u := .slice xa us.length xca) hneR).setNot (i := 1) (u := .slice xb ys.length xcb) hneR)
                 have boxR := (box9.set 0 (.slice xa us.length xca)).set 1 (.slice xb ys.length xcb)
                 have hresR : BoxL ((w9.setCell ⟨w6.heap.size, 0, none⟩ (.slice xa us.length xca)).setCell ⟨w6.heap.size, 1, none⟩ (.slice xb ys.length xcb)) (w.heap.size + 2) [.slice none 0 0, .slice none 0 0] := (hres9.turn (turn_set w9 w6.heap.size 0 (.slice xa us.length xca)) (.inl (by omega))).turn (turn_set _ w6.heap.size 1 (.slice xb ys.length xcb)) (.inl (by omega))
                 have hBR : Below w.heap.size w ((w9.setCell ⟨w6.heap.size, 0, none⟩ (.slice xa us.length xca)).setCell ⟨w6.heap.size, 1, none⟩ (.slice xb ys.length xcb)) := (hB9.setCell (by show w.heap.size ≤ w6.heap.size; omega) _).setCell (by show w.heap.size ≤ w6.heap.size; omega) _
                 skip)
              | (have hal := (Below.refl w9.heap.size w9).alloc (Nat.le_refl _) (.cells #[.slice xa us.length xca, .slice xb ys.length xcb] 29)
                 have boxR : BoxL (w9.alloc (.cells #[.slice xa us.length xca, .slice xb ys.length xcb] 29)) w9.heap.size [.slice xa us.length xca, .slice xb ys.length xcb] := BoxL.new w9 _ _
                 have hinR := hin9.below hal
                 have hresR := hres9.below hal
                 have hBR := hB9.trans (hal.mono hB9.size))
            exact ⟨rfl, _, f6, caps6, xa, xca, xb, xcb, rfl, hinR.rows, boxR, hresR, hBR⟩
        case' tail4 =>
          rintro e act W10 ⟨rfl, R, f6, caps6, xa, xca, xb, xcb, rfl, hinR, boxR, hresR, hBR⟩
          clear HA HIN HS5 HR5 HT9 BOX5 hD5 y0 y1 H5 hne HPA HPB hQ5 hz40 hs5 hb0 hws
          unfold frame4
          have hdl := doS_fine k (place ss sa).toNat (place ss sb).toNat vs zs
          rw [HDO.out] at hdl
          have hul : us.length ≤ 1048576 := by have := hdl.2.1; simp at this; omega
          have hyl : ys.length ≤ 1048576 := by have := hdl.2.2; simp at this; omega
          clear hdl
          have c0 := boxR.c 0 _ rfl
          have c1 := boxR.c 1 _ rfl
          have r0 := hresR.c 0 _ rfl
          have r1 := hresR.c 1 _ rfl
          have rf := hresR.f
          have rl' := hresR.lt
          have hRl := boxR.lt
          have hA10 : ∀ W, Below W10.heap.size W10 W → BoxL W R [.slice xa us.length xca, .slice xb ys.length xcb] ∧ BoxL W (w.heap.size + 2) [.slice none 0 0, .slice none 0 0] ∧ HeapAt W xa xb us ys ∧ Below w.heap.size w W := fun W hb =>
            ⟨boxR.below hb, hresR.below hb, hinR.below hb (Nat.le_refl _), hBR.trans (hb.mono hBR.size)⟩
          have HA10 := Lib.hid hA10
          have hrows := hinR
          clear hA10 hinR boxR hresR hBR
          by_cases hc9 : c9 = 0
          case' neg =>
            have HR := Lib.hid (exec_code HST.out HHP.out HDO.out hc9)
            have hcb : (c9 == 0) = false := by simpa using hc9
            clear hc9 c0 c1 hrows
            go_wp2
            refine bodyPost_ret (v := .tuple #[heV none 0 0 none 0 0, .int .i64 c9]) (by simp [results, Tryd.results8, go_sem, r0, r1]) rfl ?_
            rw [HR.out]
            refine exec_bad ?_
            exact (((HA10.out _ (Below.refl _ _)).2.2.2).setCell (by show w.heap.size ≤ w.heap.size + 2; omega) _).setCell (by show w.heap.size ≤ w.heap.size + 2; omega) _
          case' pos =>
            subst hc9
            go_wp2_with fail
            refine (implHasLeak xa xb xca xcb us ys _ hul hyl hrows).mono ?_
            rintro e w11 ⟨rfl, hb11⟩
            clear c0 c1 r0 r1 rf hrows
            obtain ⟨boxR, hresR, hrows, hB11⟩ := HA10.out _ hb11
            have r0 := hresR.c 0 _ rfl
            have r1 := hresR.c 1 _ rfl
            have rf := hresR.f
            cases hlk : leakB us ys
            case' true =>
              have HR := Lib.hid (exec_leak HST.out HHP.out HDO.out hlk)
              clear hlk boxR hrows
              go_wp2
              refine bodyPost_ret (v := .tuple #[heV none 0 0 none 0 0, .int .i64 4]) (by simp [results, Tryd.results8, go_sem, r0, r1]) rfl ?_
              rw [HR.out]
              refine exec_bad ?_
              exact (hB11.setCell (by show w.heap.size ≤ w.heap.size + 2; omega) _).setCell (by show w.heap.size ≤ w.heap.size + 2; omega) _
            case' false =>
              have HR := Lib.hid (exec_ok HST.out HHP.out HDO.out hlk)
              have c0 := boxR.c 0 _ rfl
              have c1 := boxR.c 1 _ rfl
              have hs11 := hb11.size
              clear hlk
              go_wp2_with fail
              refine (implCanonHeap xa xb xca xcb us ys _ hul hyl hrows).mono ?_
              rintro e w12 ⟨ya, yca, yb, ycb, rfl, hin12, hb12⟩
              obtain ⟨_, hres12, _, hB12⟩ := HA10.out _ (hb11.trans (hb12.mono hb11.size))
              clear c0 c1 r0 r1 rf boxR hresR hrows
              have r0 := hres12.c 0 _ rfl
              have r1 := hres12.c 1 _ rfl
              have rf := hres12.f
              have hX := heap_res (Q := w.heap.size + 2) (u := .slice ya (canonVs us ys).length yca) (v := .slice yb (canonNs us ys).length ycb) hin12 hB12 (by omega) (by omega)
              have HX := Lib.hid hX
              clear hX hin12
              generalize canonVs us ys = ps at *
              generalize canonNs us ys = qs at *
              go_wp2
              refine bodyPost_ret (v := .tuple #[heV ya ps.length yca yb qs.length ycb, .int .i64 0]) (by simp [results, Tryd.results8, go_sem, r0, r1]) rfl ?_
              rw [HR.out]
              exact ⟨ya, yca, yb, ycb, rfl, HX.out.1, HX.out.2⟩
end Go.Proofs.YtcgkaefacdblnaaDoor
