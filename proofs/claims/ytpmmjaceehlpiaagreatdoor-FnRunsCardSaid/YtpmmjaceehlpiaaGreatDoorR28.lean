/-
  The draw of a program, of a heap and of edges to follow.
-/
import Derived.Test.YtpmmjaceehlpiaaGreatDoorR22
import Derived.Test.YtpmmjaceehlpiaaGreatDoorR10
namespace Go.Proofs.YtpmmjaceehlpiaaGreatDoor
open Go Go.RowKit Go.ChangeShapes Go.WideShapes

/-- All that the walk of this draw keeps: the cursor in block g, boxes, the program's rows and the heap's, all below block M. -/
structure FK (w : World) (g L P H M : Nat) (v0 v1 v2 u0 u1 : Value) (ra rb : Option Addr) (ss : List ByteArray) (es : List Ed) (a b : Option Addr) (ca cb : Nat) (vs zs : List Int) (W : World) : Prop where
  cur : Cur W g
  bn : BoxL W w.heap.size [.slice none 0 0, .int .i64 0, .slice none 0 0]
  bm : BoxL W (w.heap.size + 1) [.slice none 0 0, .slice none 0 0]
  bp : BoxL W P [v0, v1, v2]
  bh : BoxL W H [u0, u1]
  r1 : RowIn L P W ra (strVals ss)
  r2 : RowIn L P W rb (edVals es)
  hin : HeapIn (P + 1) H W a ca b cb (intVals vs) (intVals zs)
  b : Below w.heap.size w W
  le1 : w.heap.size + 2 ≤ g
  le2 : g < L
  le3 : L ≤ P
  le4 : P < H
  le5 : H < M
  le6 : M ≤ W.heap.size
section
variable {w W W' : World} {g L P H M : Nat} {v0 v1 v2 u0 u1 : Value} {ra rb : Option Addr} {ss : List ByteArray} {es : List Ed} {a b : Option Addr} {ca cb : Nat} {vs zs : List Int}
theorem FK.draw (h : FK w g L P H M v0 v1 v2 u0 u1 ra rb ss es a b ca cb vs zs W) (hc : Cur W' g) (hw : W.grownBy W' (some g)) : FK w g L P H M v0 v1 v2 u0 u1 ra rb ss es a b ca cb vs zs W' := by
  have t := turn_drawn hw
  obtain ⟨_, h2, h3, h4, h5, h6, h7, h8, h9, l1, l2, l3, l4, l5, l6⟩ := h
  exact ⟨hc, h2.turn t (.inl (by omega)), h3.turn t (.inl (by omega)), h4.turn t (.inr (by omega)), h5.turn t (.inr (by omega)), h6.turn t (.inr (by omega)), h7.turn t (.inr (by omega)), h8.turn t (.inr (by omega)), below_only h9 hw h9.size (by omega), l1, l2, l3, l4, l5, Nat.le_trans l6 t.size⟩
theorem FK.turn {hi : Nat} (h : FK w g L P H M v0 v1 v2 u0 u1 ra rb ss es a b ca cb vs zs W) (t : Turn M hi W W') : FK w g L P H M v0 v1 v2 u0 u1 ra rb ss es a b ca cb vs zs W' := by
  obtain ⟨h1, h2, h3, h4, h5, h6, h7, h8, h9, l1, l2, l3, l4, l5, l6⟩ := h
  exact ⟨h1.upto ⟨t.os, t.tape, t.output, t.size, fun k hk => t.block k (by omega) (.inl (by omega))⟩, h2.turn t (.inl (by omega)), h3.turn t (.inl (by omega)), h4.turn t (.inl (by omega)), h5.turn t (.inl (by omega)), h6.turn t (.inl (by omega)), h7.turn t (.inl (by omega)), h8.turn t (.inl (by omega)), t.below h9 (by omega) h9.size, l1, l2, l3, l4, l5, Nat.le_trans l6 t.size⟩
theorem FK.below (h : FK w g L P H M v0 v1 v2 u0 u1 ra rb ss es a b ca cb vs zs W) (hb : Below W.heap.size W W') : FK w g L P H M v0 v1 v2 u0 u1 ra rb ss es a b ca cb vs zs W' := h.turn (hi := M) (Turn.of_below hb)
end
/-- A program, a heap, edges: drawn. -/
def SomeFollow (w : World) (e : Ending) (w' : World) : Prop :=
  ∃ ra rc rb rd ss p es a ca b cb vs zs ea ec edges, Small ss p es ∧ e = .returned (.tuple #[progV ra ss.length rc p rb es.length rd, heV a vs.length ca b zs.length cb, .slice ea edges.length ec]) ∧ (vs.length ≤ 4 ∧ zs.length ≤ 5) ∧ (edges.length ≤ 8 ∧ ∀ x ∈ edges, -1 ≤ x ∧ x ≤ 100) ∧
    (Row w' w'.heap.size ra (strVals ss) ∧ Row w' w'.heap.size rb (edVals es)) ∧ HeapAt w' a b vs zs ∧ ((a = none → ca = 0) ∧ (b = none → cb = 0)) ∧ Row w' w'.heap.size ea (intVals edges) ∧ Below w.heap.size w w'
theorem follow_end {w W V : World} {l1 h1 l2 h2 l3 h3 l4 h4 : Nat} {ra rb a b ea : Option Addr} {rc rd ca cb ec : Nat} {ss : List ByteArray} {p : Int} {es : List Ed} {vs zs edges : List Int} (hB : Below w.heap.size w W) (hsz : w.heap.size ≤ W.heap.size) (hS : Small ss p es) (hv : vs.length ≤ 4 ∧ zs.length ≤ 5) {m : Nat} (hm : edges.length = m) (hl8 : m ≤ 8) (he : ∀ x ∈ edges, -1 ≤ x ∧ x ≤ 100)
    (r1 : RowIn l1 h1 W ra (strVals ss)) (r2 : RowIn l2 h2 W rb (edVals es)) (hi : HeapIn l3 h3 W a ca b cb (intVals vs) (intVals zs)) (ho : OwnIn l4 h4 W 3 1 (.slice ea m ec) m (intVals edges)) (hl : w.heap.size + 2 ≤ l1 ∧ w.heap.size + 2 ≤ l2 ∧ w.heap.size + 2 ≤ l3 ∧ w.heap.size + 2 ≤ l4)
    (t : Turn w.heap.size (w.heap.size + 2) W V) : SomeFollow w (.returned (.tuple #[progV ra ss.length rc p rb es.length rd, heV a vs.length ca b zs.length cb, .slice ea m ec])) V := by
  subst hm
  have hi' := hi.turn t (.inr hl.2.2.1)
  exact ⟨ra, rc, rb, rd, ss, p, es, a, ca, b, cb, vs, zs, ea, ec, edges, hS, rfl, hv, ⟨hl8, he⟩, ⟨(r1.turn t (.inr hl.1)).row, (r2.turn t (.inr hl.2.1)).row⟩, hi'.rows, ⟨own_none hi'.v.2.1, own_none hi'.z.2.1⟩, (ho.turn t (.inr hl.2.2.2)).row, t.below hB (Nat.le_refl _) hsz⟩
theorem five_turn (W : World) (b : Nat) (u0 u1 u2 v0 v1 : Value) : Turn b (b + 2) W (((((W.setCell ⟨b, 0, none⟩ u0).setCell ⟨b, 1, none⟩ u1).setCell ⟨b, 2, none⟩ u2).setCell ⟨b + 1, 0, none⟩ v0).setCell ⟨b + 1, 1, none⟩ v1) := by
  have t : ∀ (W : World) (k i : Nat) (u : Value), b ≤ k → k < b + 2 → Turn b (b + 2) W (W.setCell ⟨k, i, none⟩ u) := fun W k i u h1 h2 => (turn_set W k i u).mono h1 (by omega)
  exact ((((t _ _ _ _ (by omega) (by omega)).trans (t _ _ _ _ (by omega) (by omega))).trans (t _ _ _ _ (by omega) (by omega))).trans (t _ _ _ _ (by omega) (by omega))).trans (t _ _ _ _ (by omega) (by omega))
theorem five_turn' (W : World) (b : Nat) (u0 u1 u2 v0 v1 : Value) : Turn b (b + 2) W (((((W.setCell ⟨b + 1, 0, none⟩ v0).setCell ⟨b + 1, 1, none⟩ v1).setCell ⟨b, 0, none⟩ u0).setCell ⟨b, 1, none⟩ u1).setCell ⟨b, 2, none⟩ u2) := by
  have t : ∀ (W : World) (k i : Nat) (u : Value), b ≤ k → k < b + 2 → Turn b (b + 2) W (W.setCell ⟨k, i, none⟩ u) := fun W k i u h1 h2 => (turn_set W k i u).mono h1 (by omega)
  exact ((((t _ _ _ _ (by omega) (by omega)).trans (t _ _ _ _ (by omega) (by omega))).trans (t _ _ _ _ (by omega) (by omega))).trans (t _ _ _ _ (by omega) (by omega))).trans (t _ _ _ _ (by omega) (by omega))
theorem snoc_ok {l : List Int} {x : Int} (h : ∀ z ∈ l, -1 ≤ z ∧ z ≤ 100) (hx : -1 ≤ x ∧ x ≤ 100) : ∀ z ∈ l ++ [x], -1 ≤ z ∧ z ≤ 100 := all_snoc' h hx
set_option maxRecDepth 100000 in
set_option maxHeartbeats 6400000 in
theorem drawFollow (a : Option Addr) (n cap : Nat) (w : World) (hn : n ≤ 1099511627776) (hcode : Code8 w w.heap.size n a) : Calls Tryz.prog 7 #[.slice a n cap] w (SomeFollow w) := by
  obtain ⟨i0, hi, hz0, hz1, hz2⟩ := info_parts intInfo
  go_enter Tryz.func7, Tryz.ntmps7
  obtain ⟨W0, hW0, hb0, bn0, bm0⟩ := two_boxL w [.slice none 0 0, .int .i64 0, .slice none 0 0] [.slice none 0 0, .slice none 0 0] 27 30
  simp only [List.toArray] at hW0
  have hs0 := bm0.lt
  go_wp2_with fail
  clear hW0
  refine (drawNew a n cap _ hn ((hcode.keeps fun p hp => hb0.cell hp).grow hb0.size)).mono ?_
  rintro e w1 ⟨g, rfl, hg, hc1, hb1⟩
  have bn1 := bn0.below hb1
  have bm1 := bm0.below hb1
  have hB1 := hb0.trans (hb1.mono hb0.size)
  have hz1' := hb1.size
  have hg1 := hc1.lt
  have hgw : w.heap.size + 2 ≤ g := by omega
  clear bn0 bm0 hb0 hb1
  go_wp2_with fail
  refine (drawProg g _ hc1).mono ?_
  rintro e w2 ⟨ra, rc, rb, rd, ss, p, es, hS, hsl4, _, _, rfl, _, _, h1, h2, hc2, hw2⟩
  have t2 := turn_drawn hw2
  have bn2 := bn1.turn t2 (.inl (by omega))
  have bm2 := bm1.turn t2 (.inl (by omega))
  have hB2 := below_only hB1 hw2 hB1.size (by omega)
  have h12 := hw2.size
  have hi1 := rw_in h1 (Nat.le_refl _)
  have hi2 := rw_in h2 (Nat.le_refl _)
  clear bn1 bm1 hB1 h1 h2 hw2 t2
  obtain ⟨W2, hW2, bp2, hal2, hz2'⟩ : ∃ W, w2.alloc (.cells #[.slice ra ss.length rc, .int .i64 p, .slice rb es.length rd] 27) = W ∧ BoxL W w2.heap.size [.slice ra ss.length rc, .int .i64 p, .slice rb es.length rd] ∧ Below w2.heap.size w2 W ∧ w2.heap.size < W.heap.size :=
    ⟨_, rfl, BoxL.new w2 [.slice ra ss.length rc, .int .i64 p, .slice rb es.length rd] 27, (Below.refl _ _).alloc (Nat.le_refl _) _, by simp⟩
  have bn3 := bn2.below hal2
  have bm3 := bm2.below hal2
  have hc3 := hc2.keeps hal2
  have hB3 := hB2.trans (hal2.mono hB2.size)
  have hj1 := hi1.below hal2
  have hj2 := hi2.below hal2
  have p0 := bp2.c 0 _ rfl
  have p1 := bp2.c 1 _ rfl
  have p2 := bp2.c 2 _ rfl
  have HS := Lib.hid hS
  have hgp : g < w2.heap.size := hc2.lt
  have hel := hS.edges
  clear bn2 bm2 hB2 hi1 hi2 hc2 hS
  go_wp2_with fail
  clear hW2 hal2 p0 p1 p2
  refine (drawHeapN ss.length hsl4 g _ hc3).mono ?_
  rintro e w3 ⟨ha, hca, hb, hcb, vs, zs, rfl, hvl, hzl, hin3, D3⟩
  have HVZ := Lib.hid (show vs.length ≤ 4 ∧ zs.length ≤ 5 from ⟨by omega, hzl⟩)
  have t3 := turn_drawn D3.grown
  have bn4 := bn3.turn t3 (.inl (by omega))
  have bm4 := bm3.turn t3 (.inl (by omega))
  have bp4 := bp2.turn t3 (.inr (by omega))
  have hk1 := hj1.turn t3 (.inr (by omega))
  have hk2 := hj2.turn t3 (.inr (by omega))
  have hB4 := below_only hB3 D3.grown hB3.size (by omega)
  have h34 := D3.grown.size
  have hc4 := D3.cur
  clear bn3 bm3 bp2 hj1 hj2 hB3 D3 t3 hvl
  obtain ⟨W3, hW3, bh3, hal3, hz3'⟩ : ∃ W, w3.alloc (.cells #[.slice ha vs.length hca, .slice hb zs.length hcb] 30) = W ∧ BoxL W w3.heap.size [.slice ha vs.length hca, .slice hb zs.length hcb] ∧ Below w3.heap.size w3 W ∧ w3.heap.size < W.heap.size :=
    ⟨_, rfl, BoxL.new w3 [.slice ha vs.length hca, .slice hb zs.length hcb] 30, (Below.refl _ _).alloc (Nat.le_refl _) _, by simp⟩
  have hal4 := (Below.refl W3.heap.size W3).alloc (Nat.le_refl _) (.cells #[] 3)
  have ho4 := World.ownsRow_made (e := 3) (size := 1) (base := W3.heap.size) W3 #[] 0 (Nat.le_refl _) (Nat.zero_le _) rfl
  obtain ⟨W4, hW4⟩ : ∃ W, W3.alloc (.cells #[] 3) = W := ⟨_, rfl⟩
  rw [hW4] at hal4 ho4
  have F4 : FK w g w1.heap.size w2.heap.size w3.heap.size W3.heap.size (.slice ra ss.length rc) (.int .i64 p) (.slice rb es.length rd) (.slice ha vs.length hca) (.slice hb zs.length hcb) ra rb ss es ha hb hca hcb vs zs W3 :=
    ⟨hc4.keeps hal3, bn4.below hal3, bm4.below hal3, bp4.below hal3, bh3, hk1.below hal3, hk2.below hal3, (hin3.below hal3).mono (by omega) (Nat.le_refl _) (by omega), hB4.trans (hal3.mono hB4.size), hgw, hg1, h12, by omega, by omega, Nat.le_refl _⟩
  have F5 := F4.below hal4
  clear bn4 bm4 bp4 bh3 hk1 hk2 hin3 hB4 hc4 F4
  go_wp2_with fail
  clear hW3 hal3 hW4 hal4
  refine (drawBelow g 8 _ (by omega) (by omega) F5.cur).mono ?_
  rintro e w5 ⟨N, hN, rfl, hc6, hw6⟩
  have F6 := Lib.hid (F5.draw hc6 hw6)
  have HO6 := Lib.hid (own_other ho4 hw6 (fun j hj e => by have := (ho4.lt j hj).1; have := Option.some.inj e; omega))
  clear F5 ho4 hc6 hw6
  generalize hMM : W3.heap.size = M at *
  go_wp2
  go_loopw [8, 9, 11] (fun u q i wr => ∃ (k : Nat) (v : Value) (xs : List Int) (pt : Int), k ≤ N ∧ i = .int .i64 (k : Int) ∧ u = v ∧ q = .int .i64 pt ∧ xs.length = k ∧ (∀ z ∈ xs, -1 ≤ z ∧ z ≤ 100) ∧ wr.ownsRow M 3 1 v k (intVals xs) ∧ FK w g w1.heap.size w2.heap.size w3.heap.size M (.slice ra ss.length rc) (.int .i64 p) (.slice rb es.length rd) (.slice ha vs.length hca) (.slice hb zs.length hcb) ra rb ss es ha hb hca hcb vs zs wr) (fun _ _ i _ => N - (intOf i).toNat)
  case atStart => exact ⟨0, _, [], 0, Nat.zero_le _, rfl, rfl, rfl, rfl, by simp, HO6.out, F6.out⟩
  case round =>
    clear F6 HO6 hMM
    obtain ⟨k, v, xs, pt, hk, rfl, rfl, rfl, hxl, hxb, hown, F⟩ := hrel
    have HXL := Lib.hid hxl
    have HXB := Lib.hid hxb
    clear hxl hxb
    by_cases hlt : k < N
    · have c0 := F.bp.c 0 _ rfl
      have c1 := F.bp.c 1 _ rfl
      have c2 := F.bp.c 2 _ rfl
      go_wp2_with fail
      refine (specEdgesFrom ra rb ss.length rc rd es p pt _ (by omega) F.r2.row).mono ?_
      rintro e v1 ⟨la, lc, rfl, hlcap, hol, hbl⟩
      have F1 := F.below hbl
      have ho1 := own_keeps hown hbl
      have hqm : ∀ z ∈ posFrom pt 0 (fromsOf es), ∃ m : Nat, z = (m : Int) ∧ m < es.length := fun z hz => by
        obtain ⟨m, h1, h2, _⟩ := posFrom_mem pt (fromsOf es) 0 z hz
        rw [fromsOf_length] at h2
        exact ⟨m, by rw [h1, Nat.zero_add], h2⟩
      have hql : (posFrom pt 0 (fromsOf es)).length ≤ es.length := by have := posFrom_length pt (fromsOf es) 0; rwa [fromsOf_length] at this
      have hrl := (OwnIn.of hol).rowIn
      generalize posFrom pt 0 (fromsOf es) = qs at *
      rw [intVals_length] at hlcap ⊢
      have HQM := Lib.hid hqm
      have hs1 := hbl.size
      have hM0 := F.le6
      clear c0 c1 c2 hqm hol hbl hown F
      by_cases hq0 : qs.length = 0
      · have HR := Lib.hid hrl
        clear hrl
        go_wp2_with fail
        refine (drawBelow g 6 _ (by omega) (by omega) F1.cur).mono ?_
        rintro e v3 ⟨y, hy, rfl, vc3, vw3⟩
        have F3 := F1.draw vc3 vw3
        have hs3 := vw3.size
        have HO3 := Lib.hid (own_other ho1 vw3 (fun j hj e => by have := (ho1.lt j hj).1; have := Option.some.inj e; have := F1.le2; have := F1.le3; have := F1.le4; have := F1.le5; omega))
        have hM3 := F3.le6
        clear vc3 vw3
        go_wp2_with (first
          | (at_builtin; refine wpList_append_own_at _ rfl (.tmp 41) (.tmp 45) 28 rfl M 3 i0 (.int .i64 0) 1 8 Tryz.underlying28 hi hz0 hz1 hz2 rfl (by decide) _ k _ rfl (HO3.out.alloc _) ⟨v3.heap.size, 0, none⟩ 1 1 [.int .i64 ((y : Int) - 1)] rfl rfl (oneCell_at _) (oneCell_int _) (by unfold maxLen; omega) (by omega) (by simp; omega) ?_; intro v5 w5 hown5 hg5 _ hloc; obtain ⟨va5, vc5, rfl, _⟩ := own_shape hown5; have t5 : Turn M w5.heap.size _ w5 := Turn.of_grown hg5 (fun j hj => ⟨(HO3.out.lt j hj).1, by have h2 : j < v3.heap.size := (HO3.out.lt j hj).2; have h1 : v3.heap.size + 1 ≤ w5.heap.size := (by have := hg5.size; simpa using this); omega⟩); have halx := (Below.refl v3.heap.size v3).alloc (Nat.le_refl _) (.cells #[.int .i64 ((y : Int) - 1)] 3); have F5 := (F3.below halx).turn t5)
          | fail)
        have own5 : w5.ownsRow M 3 1 (.slice va5 (k + 1) vc5) (k + 1) (intVals (xs ++ [(y : Int) - 1])) := by rw [intVals_snoc]; exact hown5
        refine (drawOnce g 12 _ (by omega) (by omega) F5.cur).mono ?_
        rintro e z1 ⟨fl9, rfl, zc1, zw1⟩
        have Z1 := F5.draw zc1 zw1
        have zo1 := own_other own5 zw1 (fun j hj e => by have := (own5.lt j hj).1; have := Option.some.inj e; have := F5.le2; have := F5.le3; have := F5.le4; have := F5.le5; omega)
        have L1 := Z1.le1
        have L2 := Z1.le2
        have L3 := Z1.le3
        have L4 := Z1.le4
        have L5 := Z1.le5
        clear zc1 zw1
        cases fl9 with
        | true =>
          go_wp2_with fail
          refine (drawBentProg g _ Z1.cur).mono ?_
          rintro e z2 ⟨sa, sc, sb, sd, tt, p', fs, hS6, _, rfl, _, _, h1, h2, zc2, zw2⟩
          have hz12 := zw2.size
          have M6 := Z1.le6
          have Z2 := Z1.draw zc2 zw2
          have zo2 := own_other zo1 zw2 (fun j hj e => by have := (zo1.lt j hj).1; have := Option.some.inj e; omega)
          have tp := three_turn z2 w2.heap.size (.slice sa tt.length sc) (.int .i64 p') (.slice sb fs.length sd)
          have bq := ((Z2.bp.set 0 (.slice sa tt.length sc)).set 1 (.int .i64 p')).set 2 (.slice sb fs.length sd)
          obtain ⟨V, hV⟩ : ∃ V, ((z2.setCell ⟨w2.heap.size, 0, none⟩ (.slice sa tt.length sc)).setCell ⟨w2.heap.size, 1, none⟩ (.int .i64 p')).setCell ⟨w2.heap.size, 2, none⟩ (.slice sb fs.length sd) = V := ⟨_, rfl⟩
          have pc0 := Z2.bp.c 0 _ rfl
          have pc1 := Z2.bp.c 1 _ rfl
          have pc2 := Z2.bp.c 2 _ rfl
          have pf := Z2.bp.f
          rw [hV] at tp bq
          have tv : Turn V.heap.size V.heap.size V V.drew := Turn.of_below (Below.drew (Below.refl _ _))
          have bnV := Z2.bn.turn tp (.inl (by omega))
          have bmV := Z2.bm.turn tp (.inl (by omega))
          have bhV := Z2.bh.turn tp (.inr (by omega))
          have hiV := (Z2.hin.turn tp (.inr (by omega))).below (Below.drew (Below.refl _ _))
          have zoV := ((OwnIn.of zo2).turn tp (.inr (by omega))).below (Below.drew (Below.refl _ _))
          have r1 := ((rw_in h1 (Nat.le_refl _)).turn tp (.inr (by omega))).below (Below.drew (Below.refl _ _))
          have r2 := ((rw_in h2 (Nat.le_refl _)).turn tp (.inr (by omega))).below (Below.drew (Below.refl _ _))
          have hBV := (tp.below Z2.b (by omega) Z2.b.size).drew
          have HE := Lib.hid (fun U t => follow_end (V := U) (rc := sc) (rd := sd) (ca := hca) (cb := hcb) (ec := vc5) hBV hBV.size hS6 HVZ.out (show (xs ++ [(y : Int) - 1]).length = k + 1 by simp [HXL.out]) (by omega) (snoc_ok HXB.out (by omega)) r1 r2 hiV zoV (by omega) t)
          have q0 := bq.c 0 _ rfl
          have q1 := bq.c 1 _ rfl
          have q2 := bq.c 2 _ rfl
          have y0 := bhV.c 0 _ rfl
          have y1 := bhV.c 1 _ rfl
          have n0 := bnV.c 0 _ rfl
          have n1 := bnV.c 1 _ rfl
          have n2 := bnV.c 2 _ rfl
          have nf := bnV.f
          have k0 := bmV.c 0 _ rfl
          have k1 := bmV.c 1 _ rfl
          have kf := bmV.f
          go_wp2
          go_region
          all_goals
            go_wp2
            exact bodyPost_ret (v := .tuple #[progV sa tt.length sc p' sb fs.length sd, heV ha vs.length hca hb zs.length hcb, .slice va5 (k + 1) vc5]) (by simp [results, Tryz.results7, go_sem, n0, n1, n2, k0, k1]) rfl (HE.out _ (by first | exact five_turn _ _ _ _ _ _ _ | exact five_turn' _ _ _ _ _ _ _))
        | false =>
          have tv : Turn z1.heap.size z1.heap.size z1 z1.drew := Turn.of_below (Below.drew (Below.refl _ _))
          have hiV := Z1.hin.below (Below.drew (Below.refl _ _))
          have zoV := (OwnIn.of zo1).below (Below.drew (Below.refl _ _))
          have r1 := Z1.r1.below (Below.drew (Below.refl _ _))
          have r2 := Z1.r2.below (Below.drew (Below.refl _ _))
          have hBV := Z1.b.drew
          have M6 := Z1.le6
          have HE := Lib.hid (fun U t => follow_end (V := U) (rc := rc) (rd := rd) (ca := hca) (cb := hcb) (ec := vc5) hBV hBV.size HS.out HVZ.out (show (xs ++ [(y : Int) - 1]).length = k + 1 by simp [HXL.out]) (by omega) (snoc_ok HXB.out (by omega)) r1 r2 hiV zoV (by omega) t)
          have q0 := Z1.bp.c 0 _ rfl
          have q1 := Z1.bp.c 1 _ rfl
          have q2 := Z1.bp.c 2 _ rfl
          have y0 := Z1.bh.c 0 _ rfl
          have y1 := Z1.bh.c 1 _ rfl
          have n0 := Z1.bn.c 0 _ rfl
          have n1 := Z1.bn.c 1 _ rfl
          have n2 := Z1.bn.c 2 _ rfl
          have nf := Z1.bn.f
          have k0 := Z1.bm.c 0 _ rfl
          have k1 := Z1.bm.c 1 _ rfl
          have kf := Z1.bm.f
          go_wp2
          go_region
          all_goals
            go_wp2
            exact bodyPost_ret (v := .tuple #[progV ra ss.length rc p rb es.length rd, heV ha vs.length hca hb zs.length hcb, .slice va5 (k + 1) vc5]) (by simp [results, Tryz.results7, go_sem, n0, n1, n2, k0, k1]) rfl (HE.out _ (by first | exact five_turn _ _ _ _ _ _ _ | exact five_turn' _ _ _ _ _ _ _))
      · go_wp2_with fail
        refine (drawOnce g 12 _ (by omega) (by omega) F1.cur).mono ?_
        rintro e v2 ⟨fl, rfl, vc2, vw2⟩
        have F2 := F1.draw vc2 vw2
        have L1 := F2.le1
        have L2 := F2.le2
        have L3 := F2.le3
        have L4 := F2.le4
        have L5 := F2.le5
        have L6 := F2.le6
        have hs2 := vw2.size
        have ho2 := own_other ho1 vw2 (fun j hj e => by have := (ho1.lt j hj).1; have := Option.some.inj e; omega)
        have hr2 := hrl.turn (turn_drawn vw2) (.inr (by omega))
        clear F1 ho1 hrl vc2 vw2
        cases fl with
        | true =>
          clear hr2 L1 L2 L3 L4 L5 L6
          go_wp2_with fail
          refine (drawBelow g 6 _ (by omega) (by omega) F2.cur).mono ?_
          rintro e v3 ⟨y, hy, rfl, vc3, vw3⟩
          have F3 := F2.draw vc3 vw3
          have hs3 := vw3.size
          have HO3 := Lib.hid (own_other ho2 vw3 (fun j hj e => by have := (ho2.lt j hj).1; have := Option.some.inj e; have := F2.le2; have := F2.le3; have := F2.le4; have := F2.le5; omega))
          have hM3 := F3.le6
          clear vc3 vw3
          go_wp2_with (first
            | (at_builtin; refine wpList_append_own_at _ rfl (.tmp 41) (.tmp 45) 28 rfl M 3 i0 (.int .i64 0) 1 8 Tryz.underlying28 hi hz0 hz1 hz2 rfl (by decide) _ k _ rfl (HO3.out.alloc _) ⟨v3.heap.size, 0, none⟩ 1 1 [.int .i64 ((y : Int) - 1)] rfl rfl (oneCell_at _) (oneCell_int _) (by unfold maxLen; omega) (by omega) (by simp; omega) ?_; intro v5 w5 hown5 hg5 _ hloc; obtain ⟨va5, vc5, rfl, _⟩ := own_shape hown5; have t5 : Turn M w5.heap.size _ w5 := Turn.of_grown hg5 (fun j hj => ⟨(HO3.out.lt j hj).1, by have h2 : j < v3.heap.size := (HO3.out.lt j hj).2; have h1 : v3.heap.size + 1 ≤ w5.heap.size := (by have := hg5.size; simpa using this); omega⟩); have halx := (Below.refl v3.heap.size v3).alloc (Nat.le_refl _) (.cells #[.int .i64 ((y : Int) - 1)] 3); have F5 := (F3.below halx).turn t5)
            | fail)
          have own5 : w5.ownsRow M 3 1 (.slice va5 (k + 1) vc5) (k + 1) (intVals (xs ++ [(y : Int) - 1])) := by rw [intVals_snoc]; exact hown5
          refine (drawOnce g 12 _ (by omega) (by omega) F5.cur).mono ?_
          rintro e z1 ⟨fl9, rfl, zc1, zw1⟩
          have Z1 := F5.draw zc1 zw1
          have zo1 := own_other own5 zw1 (fun j hj e => by have := (own5.lt j hj).1; have := Option.some.inj e; have := F5.le2; have := F5.le3; have := F5.le4; have := F5.le5; omega)
          have L1 := Z1.le1
          have L2 := Z1.le2
          have L3 := Z1.le3
          have L4 := Z1.le4
          have L5 := Z1.le5
          clear zc1 zw1
          cases fl9 with
          | true =>
            go_wp2_with fail
            refine (drawBentProg g _ Z1.cur).mono ?_
            rintro e z2 ⟨sa, sc, sb, sd, tt, p', fs, hS6, _, rfl, _, _, h1, h2, zc2, zw2⟩
            have hz12 := zw2.size
            have M6 := Z1.le6
            have Z2 := Z1.draw zc2 zw2
            have zo2 := own_other zo1 zw2 (fun j hj e => by have := (zo1.lt j hj).1; have := Option.some.inj e; omega)
            have tp := three_turn z2 w2.heap.size (.slice sa tt.length sc) (.int .i64 p') (.slice sb fs.length sd)
            have bq := ((Z2.bp.set 0 (.slice sa tt.length sc)).set 1 (.int .i64 p')).set 2 (.slice sb fs.length sd)
            obtain ⟨V, hV⟩ : ∃ V, ((z2.setCell ⟨w2.heap.size, 0, none⟩ (.slice sa tt.length sc)).setCell ⟨w2.heap.size, 1, none⟩ (.int .i64 p')).setCell ⟨w2.heap.size, 2, none⟩ (.slice sb fs.length sd) = V := ⟨_, rfl⟩
            have pc0 := Z2.bp.c 0 _ rfl
            have pc1 := Z2.bp.c 1 _ rfl
            have pc2 := Z2.bp.c 2 _ rfl
            have pf := Z2.bp.f
            rw [hV] at tp bq
            have tv : Turn V.heap.size V.heap.size V V.drew := Turn.of_below (Below.drew (Below.refl _ _))
            have bnV := Z2.bn.turn tp (.inl (by omega))
            have bmV := Z2.bm.turn tp (.inl (by omega))
            have bhV := Z2.bh.turn tp (.inr (by omega))
            have hiV := (Z2.hin.turn tp (.inr (by omega))).below (Below.drew (Below.refl _ _))
            have zoV := ((OwnIn.of zo2).turn tp (.inr (by omega))).below (Below.drew (Below.refl _ _))
            have r1 := ((rw_in h1 (Nat.le_refl _)).turn tp (.inr (by omega))).below (Below.drew (Below.refl _ _))
            have r2 := ((rw_in h2 (Nat.le_refl _)).turn tp (.inr (by omega))).below (Below.drew (Below.refl _ _))
            have hBV := (tp.below Z2.b (by omega) Z2.b.size).drew
            have HE := Lib.hid (fun U t => follow_end (V := U) (rc := sc) (rd := sd) (ca := hca) (cb := hcb) (ec := vc5) hBV hBV.size hS6 HVZ.out (show (xs ++ [(y : Int) - 1]).length = k + 1 by simp [HXL.out]) (by omega) (snoc_ok HXB.out (by omega)) r1 r2 hiV zoV (by omega) t)
            have q0 := bq.c 0 _ rfl
            have q1 := bq.c 1 _ rfl
            have q2 := bq.c 2 _ rfl
            have y0 := bhV.c 0 _ rfl
            have y1 := bhV.c 1 _ rfl
            have n0 := bnV.c 0 _ rfl
            have n1 := bnV.c 1 _ rfl
            have n2 := bnV.c 2 _ rfl
            have nf := bnV.f
            have k0 := bmV.c 0 _ rfl
            have k1 := bmV.c 1 _ rfl
            have kf := bmV.f
            go_wp2
            go_region
            all_goals
              go_wp2
              exact bodyPost_ret (v := .tuple #[progV sa tt.length sc p' sb fs.length sd, heV ha vs.length hca hb zs.length hcb, .slice va5 (k + 1) vc5]) (by simp [results, Tryz.results7, go_sem, n0, n1, n2, k0, k1]) rfl (HE.out _ (by first | exact five_turn _ _ _ _ _ _ _ | exact five_turn' _ _ _ _ _ _ _))
          | false =>
            have tv : Turn z1.heap.size z1.heap.size z1 z1.drew := Turn.of_below (Below.drew (Below.refl _ _))
            have hiV := Z1.hin.below (Below.drew (Below.refl _ _))
            have zoV := (OwnIn.of zo1).below (Below.drew (Below.refl _ _))
            have r1 := Z1.r1.below (Below.drew (Below.refl _ _))
            have r2 := Z1.r2.below (Below.drew (Below.refl _ _))
            have hBV := Z1.b.drew
            have M6 := Z1.le6
            have HE := Lib.hid (fun U t => follow_end (V := U) (rc := rc) (rd := rd) (ca := hca) (cb := hcb) (ec := vc5) hBV hBV.size HS.out HVZ.out (show (xs ++ [(y : Int) - 1]).length = k + 1 by simp [HXL.out]) (by omega) (snoc_ok HXB.out (by omega)) r1 r2 hiV zoV (by omega) t)
            have q0 := Z1.bp.c 0 _ rfl
            have q1 := Z1.bp.c 1 _ rfl
            have q2 := Z1.bp.c 2 _ rfl
            have y0 := Z1.bh.c 0 _ rfl
            have y1 := Z1.bh.c 1 _ rfl
            have n0 := Z1.bn.c 0 _ rfl
            have n1 := Z1.bn.c 1 _ rfl
            have n2 := Z1.bn.c 2 _ rfl
            have nf := Z1.bn.f
            have k0 := Z1.bm.c 0 _ rfl
            have k1 := Z1.bm.c 1 _ rfl
            have kf := Z1.bm.f
            go_wp2
            go_region
            all_goals
              go_wp2
              exact bodyPost_ret (v := .tuple #[progV ra ss.length rc p rb es.length rd, heV ha vs.length hca hb zs.length hcb, .slice va5 (k + 1) vc5]) (by simp [results, Tryz.results7, go_sem, n0, n1, n2, k0, k1]) rfl (HE.out _ (by first | exact five_turn _ _ _ _ _ _ _ | exact five_turn' _ _ _ _ _ _ _))
        | false =>
          go_wp2_with fail
          refine (drawBelow g qs.length _ (by omega) (by omega) F2.cur).mono ?_
          rintro e v3 ⟨y, hy, rfl, vc3, vw3⟩
          have F3 := F2.draw vc3 vw3
          have hs3 := vw3.size
          have HO3 := Lib.hid (own_other ho2 vw3 (fun j hj e => by have := (ho2.lt j hj).1; have := Option.some.inj e; omega))
          have hr3 := hr2.turn (turn_drawn vw3) (.inr (by omega))
          have hM3 := F3.le6
          obtain ⟨lb, lo, rfl, _, hlb, hlc⟩ := hr3.2 y _ (intVals_at qs y hy)
          obtain ⟨m, hm, hml⟩ := HQM.out qs[y] (List.getElem_mem hy)
          rw [hm] at hlc
          clear F2 ho2 hr2 hr3 vc3 vw3 hm
          go_wp2_with (first
            | (at_builtin; refine wpList_append_own_at _ rfl (.tmp 54) (.tmp 56) 28 rfl M 3 i0 (.int .i64 0) 1 8 Tryz.underlying28 hi hz0 hz1 hz2 rfl (by decide) _ k _ rfl (HO3.out.alloc _) ⟨v3.heap.size, 0, none⟩ 1 1 [.int .i64 (m : Int)] rfl rfl (oneCell_at _) (oneCell_int _) (by unfold maxLen; omega) (by omega) (by simp; omega) ?_; intro v5 w5 hown5 hg5 _ hloc; obtain ⟨va5, vc5, rfl, _⟩ := own_shape hown5; have t5 : Turn M w5.heap.size _ w5 := Turn.of_grown hg5 (fun j hj => ⟨(HO3.out.lt j hj).1, by have h2 : j < v3.heap.size := (HO3.out.lt j hj).2; have h1 : v3.heap.size + 1 ≤ w5.heap.size := (by have := hg5.size; simpa using this); omega⟩); have halx := (Below.refl v3.heap.size v3).alloc (Nat.le_refl _) (.cells #[.int .i64 (m : Int)] 3); have F5 := (F3.below halx).turn t5; have d2 := F5.bp.c 2 _ rfl; obtain ⟨eb, eo, rfl, heb, hEA⟩ := F5.r2.row.edge m hml; have et := hEA.t)
            | fail)
          go_roundw
          case rel => exact ⟨k + 1, _, xs ++ [(m : Int)], es[m].t, by omega, by go_num, rfl, rfl, by simp [HXL.out], snoc_ok HXB.out (by omega), by rw [intVals_snoc]; exact hown5, F5⟩
          case measure => simp [intOf]; omega
    · obtain rfl : k = N := by omega
      obtain ⟨ua, uc, rfl, _⟩ := own_shape hown
      go_wp2_with fail
      refine (drawOnce g 12 _ (by omega) (by omega) F.cur).mono ?_
      rintro e z1 ⟨fl9, rfl, zc1, zw1⟩
      have Z1 := F.draw zc1 zw1
      have zo1 := own_other hown zw1 (fun j hj e => by have := (hown.lt j hj).1; have := Option.some.inj e; have := F.le2; have := F.le3; have := F.le4; have := F.le5; omega)
      have L1 := Z1.le1
      have L2 := Z1.le2
      have L3 := Z1.le3
      have L4 := Z1.le4
      have L5 := Z1.le5
      clear zc1 zw1
      cases fl9 with
      | true =>
        go_wp2_with fail
        refine (drawBentProg g _ Z1.cur).mono ?_
        rintro e z2 ⟨sa, sc, sb, sd, tt, p', fs, hS6, _, rfl, _, _, h1, h2, zc2, zw2⟩
        have hz12 := zw2.size
        have M6 := Z1.le6
        have Z2 := Z1.draw zc2 zw2
        have zo2 := own_other zo1 zw2 (fun j hj e => by have := (zo1.lt j hj).1; have := Option.some.inj e; omega)
        have tp := three_turn z2 w2.heap.size (.slice sa tt.length sc) (.int .i64 p') (.slice sb fs.length sd)
        have bq := ((Z2.bp.set 0 (.slice sa tt.length sc)).set 1 (.int .i64 p')).set 2 (.slice sb fs.length sd)
        obtain ⟨V, hV⟩ : ∃ V, ((z2.setCell ⟨w2.heap.size, 0, none⟩ (.slice sa tt.length sc)).setCell ⟨w2.heap.size, 1, none⟩ (.int .i64 p')).setCell ⟨w2.heap.size, 2, none⟩ (.slice sb fs.length sd) = V := ⟨_, rfl⟩
        have pc0 := Z2.bp.c 0 _ rfl
        have pc1 := Z2.bp.c 1 _ rfl
        have pc2 := Z2.bp.c 2 _ rfl
        have pf := Z2.bp.f
        rw [hV] at tp bq
        have tv : Turn V.heap.size V.heap.size V V.drew := Turn.of_below (Below.drew (Below.refl _ _))
        have bnV := Z2.bn.turn tp (.inl (by omega))
        have bmV := Z2.bm.turn tp (.inl (by omega))
        have bhV := Z2.bh.turn tp (.inr (by omega))
        have hiV := (Z2.hin.turn tp (.inr (by omega))).below (Below.drew (Below.refl _ _))
        have zoV := ((OwnIn.of zo2).turn tp (.inr (by omega))).below (Below.drew (Below.refl _ _))
        have r1 := ((rw_in h1 (Nat.le_refl _)).turn tp (.inr (by omega))).below (Below.drew (Below.refl _ _))
        have r2 := ((rw_in h2 (Nat.le_refl _)).turn tp (.inr (by omega))).below (Below.drew (Below.refl _ _))
        have hBV := (tp.below Z2.b (by omega) Z2.b.size).drew
        have HE := Lib.hid (fun U t => follow_end (V := U) (rc := sc) (rd := sd) (ca := hca) (cb := hcb) (ec := uc) hBV hBV.size hS6 HVZ.out HXL.out (by omega) HXB.out r1 r2 hiV zoV (by omega) t)
        have q0 := bq.c 0 _ rfl
        have q1 := bq.c 1 _ rfl
        have q2 := bq.c 2 _ rfl
        have y0 := bhV.c 0 _ rfl
        have y1 := bhV.c 1 _ rfl
        have n0 := bnV.c 0 _ rfl
        have n1 := bnV.c 1 _ rfl
        have n2 := bnV.c 2 _ rfl
        have nf := bnV.f
        have k0 := bmV.c 0 _ rfl
        have k1 := bmV.c 1 _ rfl
        have kf := bmV.f
        go_wp2
        go_region
        all_goals
          go_wp2
          exact bodyPost_ret (v := .tuple #[progV sa tt.length sc p' sb fs.length sd, heV ha vs.length hca hb zs.length hcb, .slice ua k uc]) (by simp [results, Tryz.results7, go_sem, n0, n1, n2, k0, k1]) rfl (HE.out _ (by first | exact five_turn _ _ _ _ _ _ _ | exact five_turn' _ _ _ _ _ _ _))
      | false =>
        have tv : Turn z1.heap.size z1.heap.size z1 z1.drew := Turn.of_below (Below.drew (Below.refl _ _))
        have hiV := Z1.hin.below (Below.drew (Below.refl _ _))
        have zoV := (OwnIn.of zo1).below (Below.drew (Below.refl _ _))
        have r1 := Z1.r1.below (Below.drew (Below.refl _ _))
        have r2 := Z1.r2.below (Below.drew (Below.refl _ _))
        have hBV := Z1.b.drew
        have M6 := Z1.le6
        have HE := Lib.hid (fun U t => follow_end (V := U) (rc := rc) (rd := rd) (ca := hca) (cb := hcb) (ec := uc) hBV hBV.size HS.out HVZ.out HXL.out (by omega) HXB.out r1 r2 hiV zoV (by omega) t)
        have q0 := Z1.bp.c 0 _ rfl
        have q1 := Z1.bp.c 1 _ rfl
        have q2 := Z1.bp.c 2 _ rfl
        have y0 := Z1.bh.c 0 _ rfl
        have y1 := Z1.bh.c 1 _ rfl
        have n0 := Z1.bn.c 0 _ rfl
        have n1 := Z1.bn.c 1 _ rfl
        have n2 := Z1.bn.c 2 _ rfl
        have nf := Z1.bn.f
        have k0 := Z1.bm.c 0 _ rfl
        have k1 := Z1.bm.c 1 _ rfl
        have kf := Z1.bm.f
        go_wp2
        go_region
        all_goals
          go_wp2
          exact bodyPost_ret (v := .tuple #[progV ra ss.length rc p rb es.length rd, heV ha vs.length hca hb zs.length hcb, .slice ua k uc]) (by simp [results, Tryz.results7, go_sem, n0, n1, n2, k0, k1]) rfl (HE.out _ (by first | exact five_turn _ _ _ _ _ _ _ | exact five_turn' _ _ _ _ _ _ _))
end Go.Proofs.YtpmmjaceehlpiaaGreatDoor
