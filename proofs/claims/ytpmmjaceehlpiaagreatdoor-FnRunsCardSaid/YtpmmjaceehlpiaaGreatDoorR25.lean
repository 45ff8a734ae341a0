/-
  The program follows edges.
-/
import Derived.Test.YtpmmjaceehlpiaaGreatDoorR23
import Derived.Test.YtpmmjaceehlpiaaGreatDoorR18
import Derived.Test.YtpmmjaceehlpiaaGreatDoorR10
import Derived.Test.YtpmmjaceehlpiaaGreatDoorR06
namespace Go.Proofs.YtpmmjaceehlpiaaGreatDoor
open Go Go.RowKit Go.ChangeShapes Go.WideShapes Go.ChangeAt

def FollowMade (r : Sb × Int × Int) (w : World) (e : Ending) (w' : World) : Prop :=
  ∃ a c b d, e = .returned (.tuple #[spC r.1.1 a r.1.2.1.length c b r.1.2.2.length d, .int .i64 r.2.1, .int .i64 r.2.2]) ∧ HeapIn w.heap.size w'.heap.size w' a c b d (intVals r.1.2.1) (intVals r.1.2.2) ∧ Below w.heap.size w w'
theorem BoxL.onlyP {S : Nat → Prop} {W W' : World} {g : Nat} {xs : List Value} (h : BoxL W g xs) (t : Only S W W') (hd : ¬ S g) : BoxL W' g xs :=
  ⟨fun i x hx => (World.cell?_of_block (t.block g h.lt hd)).trans (h.c i x hx), fun o => (World.frozen?_of_block (t.block g h.lt hd)).trans (h.f o), Nat.lt_of_lt_of_le h.lt t.size⟩
theorem put3 {W : World} {R : Nat} {x0 y0 z0 : Value} (br : BoxL W R [x0, y0, z0]) (x y z : Value) : ∃ V, ((W.setCell ⟨R, 0, none⟩ x).setCell ⟨R, 1, none⟩ y).setCell ⟨R, 2, none⟩ z = V ∧ BoxL V R [x, y, z] ∧ Only (fun k => k = R) W V :=
  have o : ∀ (W : World) (i : Nat) (u : Value), Only (fun k => k = R) W (W.setCell ⟨R, i, none⟩ u) := fun _ _ _ => Only.set (S := fun k => k = R) rfl
  ⟨_, rfl, ((br.set 0 x).set 1 y).set 2 z, ((o _ _ _).trans (o _ _ _)).trans (o _ _ _)⟩
theorem hasEdge_mem (es : List Ed) (q e : Int) (h : List Int × List Int) : decide (e ∈ posFrom q 0 (fromsOf es)) = hasEdge es q e := by
  rw [Bool.eq_iff_iff, decide_eq_true_eq]
  exact ⟨fun hm => edges_has (st := (q, h)) hm, fun hh => mem_edges (st := (q, h)) hh⟩
theorem after_alloc {lo : Nat} {w5 w7 : World} {t7 : Int} {xa xb : Option Addr} {xca xcb : Nat} {us ys : List Int} (t : TypeId) (hin : HeapIn lo w7.heap.size w7 xa xca xb xcb (intVals us) (intVals ys)) (hlo : w5.heap.size ≤ lo) (hB : Below w5.heap.size w5 w7) :
    ∃ WA, w7.alloc (.cells #[.int .i64 t7, .slice xa us.length xca, .slice xb ys.length xcb] t) = WA ∧ BoxL WA w7.heap.size [.int .i64 t7, .slice xa us.length xca, .slice xb ys.length xcb] ∧ Hp.In w5.heap.size WA.heap.size WA ⟨xa, xca, xb, xcb, us, ys⟩ ∧ Below w5.heap.size w5 WA :=
  have ha := (Below.refl w7.heap.size w7).alloc (Nat.le_refl _) (.cells #[.int .i64 t7, .slice xa us.length xca, .slice xb ys.length xcb] t)
  ⟨_, rfl, BoxL.new w7 _ _, (hin.below ha).mono hlo ha.size (Nat.le_refl _), hB.trans (ha.mono hB.size)⟩
theorem after_store {lo A : Nat} {w5 w7 : World} {t7 : Int} {xa xb : Option Addr} {xca xcb : Nat} {us ys : List Int} {x0 y0 z0 : Value} (b : BoxL w7 A [x0, y0, z0]) (hA : w5.heap.size ≤ A) (hAl : A < lo) (hin : HeapIn lo w7.heap.size w7 xa xca xb xcb (intVals us) (intVals ys)) (hB : Below w5.heap.size w5 w7) :
    ∃ WA, ((w7.setCell ⟨A, 0, none⟩ (.int .i64 t7)).setCell ⟨A, 1, none⟩ (.slice xa us.length xca)).setCell ⟨A, 2, none⟩ (.slice xb ys.length xcb) = WA ∧ BoxL WA A [.int .i64 t7, .slice xa us.length xca, .slice xb ys.length xcb] ∧ Hp.In w5.heap.size WA.heap.size WA ⟨xa, xca, xb, xcb, us, ys⟩ ∧ Below w5.heap.size w5 WA := by
  obtain ⟨V, hV, bV, oV⟩ := put3 b (.int .i64 t7) (.slice xa us.length xca) (.slice xb ys.length xcb)
  have hN : Hp.In lo w7.heap.size w7 ⟨xa, xca, xb, xcb, us, ys⟩ := hin
  exact ⟨V, hV, bV, (hN.same oV.size fun k hk => oV.block k (hN.has_lt hk).2 (by have := (hN.has_lt hk).1; omega)).mono (by omega) oV.size (Nat.le_refl _), oV.below hB hB.size fun k hk => by omega⟩
theorem heapAt_nils {W : World} : HeapAt W none none [] [] := ⟨Row.nil_, Row.nil_⟩
set_option maxRecDepth 100000 in
set_option maxHeartbeats 3200000 in
theorem implFollow (va : Option Addr) (vc : Nat) (ss : List ByteArray) (n : Int) (ba : Option Addr) (bc : Nat) (es : List Ed) (a b : Option Addr) (ca cb : Nat) (vs zs : List Int) (ea : Option Addr) (ec : Nat) (edges : List Int) (w : World)
    (hs : ss.length ≤ maxLen ∧ (∀ s ∈ ss, s.size ≤ maxLen) ∧ Row w w.heap.size va (strVals ss)) (he : es.length ≤ 1048576 ∧ Row w w.heap.size ba (edVals es)) (hlv : vs.length ≤ maxLen) (hlz : zs.length ≤ maxLen) (h : HeapAt w a b vs zs)
    (hel : edges.length ≤ 1048576) (her : Row w w.heap.size ea (intVals edges)) (hT : HasNamesTable w) :
    Calls Tryz.prog 8 #[.agg #[.slice va ss.length vc, .int .i64 n, .slice ba es.length bc], heV a vs.length ca b zs.length cb, .slice ea edges.length ec] w (FollowMade (follow0 ss n es vs zs edges) w) := by
  obtain ⟨r0, hr0⟩ : ∃ r, follow0 ss n es vs zs edges = r := ⟨_, rfl⟩
  rw [hr0]
  obtain ⟨pb, hpb⟩ : ∃ pb, progB ss n es = pb := ⟨_, rfl⟩
  obtain ⟨hb, hhb⟩ : ∃ hb, heapB (ss.length : Int) vs zs = hb := ⟨_, rfl⟩
  have HPB := Lib.hid hpb
  have HHB := Lib.hid hhb
  have HR := Lib.hid hr0
  have key : ∀ W, Below w.heap.size w W → (Row W W.heap.size va (strVals ss) ∧ Row W W.heap.size ba (edVals es)) ∧ HeapAt W a b vs zs ∧ Row W W.heap.size ea (intVals edges) ∧ HasNamesTable W := fun W hb => ⟨⟨(hs.2.2.below hb).grow hb.size, (he.2.below hb).grow hb.size⟩, h.below hb (Nat.le_refl _), (her.below hb).grow hb.size, hT.keeps hb⟩
  have KEY := Lib.hid key
  have HS := Lib.hid (And.intro hs.1 hs.2.1)
  have HE := he.1
  clear hpb hhb hr0 key hs he her h hT
  go_enter Tryz.func8, Tryz.ntmps8
  go_wp2_with fail
  obtain ⟨W0, hW0, hb0, bp0, bh0, br0⟩ := three_boxL w [.slice va ss.length vc, .int .i64 n, .slice ba es.length bc] [.slice a vs.length ca, .slice b zs.length cb] [.int .i64 0, .slice none 0 0, .slice none 0 0] 27 30 34
  simp only [List.toArray] at hW0
  rw [hW0]
  clear hW0
  have hz0 := br0.lt
  refine (implIsProgram va ba vc bc ss n es _ ⟨HS.out.1, HS.out.2, (KEY.out _ hb0).1.1⟩ ⟨by unfold maxLen; omega, (KEY.out _ hb0).1.2⟩ (KEY.out _ hb0).2.2.2).mono ?_
  rw [HPB.out]
  rintro e w1 ⟨rfl, hb1⟩
  have hB1 := hb0.trans (hb1.mono hb0.size)
  have bp1 := bp0.below hb1
  have bh1 := bh0.below hb1
  have br1 := br0.below hb1
  have r0c := br1.c 0 _ rfl
  have r1c := br1.c 1 _ rfl
  have r2c := br1.c 2 _ rfl
  have rf := br1.f
  have p0c := bp1.c 0 _ rfl
  have h0c := bh1.c 0 _ rfl
  have h1c := bh1.c 1 _ rfl
  have HB1 := Lib.hid hB1
  have BP1 := Lib.hid bp1
  have BH1 := Lib.hid bh1
  have BR1 := Lib.hid br1
  clear hb0 bp0 bh0 br0 hb1 hB1 bp1 bh1 br1
  cases pb
  case' false =>
    have hrr : ((0, ([], [])), 7, 0) = r0 := by rw [← HR.out, follow0, HPB.out]; simp
    subst hrr
    go_wp2
    obtain ⟨V, hV, bV, oV⟩ := put3 BR1.out (.int .i64 0) (.slice none 0 0) (.slice none 0 0)
    rw [hV]
    clear hV
    have q0 := bV.c 0 _ rfl
    have q1 := bV.c 1 _ rfl
    have q2 := bV.c 2 _ rfl
    exact bodyPost_ret (v := .tuple #[spC 0 none 0 0 none 0 0, .int .i64 7, .int .i64 0]) (by simp [results, Tryz.results8, go_sem, q0, q1, q2]) rfl ⟨none, 0, none, 0, rfl, heapIn_nil (Nat.le_refl _), oV.below HB1.out HB1.out.size (fun k hk => by omega)⟩
  case' true =>
    go_wp2_with fail
    refine (implIsHeap (ss.length : Int) a b ca cb vs zs _ hlv hlz (KEY.out _ HB1.out).2.1).mono ?_
    rw [HHB.out]
    rintro e w2 ⟨rfl, hb2⟩
    have hB2 := HB1.out.trans (hb2.mono HB1.out.size)
    have bp2 := BP1.out.below hb2
    have bh2 := BH1.out.below hb2
    have br2 := BR1.out.below hb2
    have r0d := br2.c 0 _ rfl
    have r1d := br2.c 1 _ rfl
    have r2d := br2.c 2 _ rfl
    have rfd := br2.f
    have h0d := bh2.c 0 _ rfl
    have h1d := bh2.c 1 _ rfl
    have HB2 := Lib.hid hB2
    have BP2 := Lib.hid bp2
    have BR2 := Lib.hid br2
    clear r0c r1c r2c rf p0c h0c h1c hB2 bp2 bh2 br2 hb2 HB1 BP1 BH1 BR1
    cases hb
    case' false =>
      have hrr : ((0, ([], [])), 7, 0) = r0 := by rw [← HR.out, follow0, HPB.out, HHB.out]; simp
      subst hrr
      go_wp2
      obtain ⟨V, hV, bV, oV⟩ := put3 BR2.out (.int .i64 0) (.slice none 0 0) (.slice none 0 0)
      rw [hV]
      clear hV
      have q0 := bV.c 0 _ rfl
      have q1 := bV.c 1 _ rfl
      have q2 := bV.c 2 _ rfl
      exact bodyPost_ret (v := .tuple #[spC 0 none 0 0 none 0 0, .int .i64 7, .int .i64 0]) (by simp [results, Tryz.results8, go_sem, q0, q1, q2]) rfl ⟨none, 0, none, 0, rfl, heapIn_nil (Nat.le_refl _), oV.below HB2.out HB2.out.size (fun k hk => by omega)⟩
    case' true =>
      have hrr : followS ss es (0, (vs, zs)) 0 edges = r0 := by rw [← HR.out, follow0, HPB.out, HHB.out]; simp
      have hHP := heapB_parts HHB.out
      go_wp2_with fail
      refine (implCopy a b ca cb vs zs _ (by omega) (by omega) (KEY.out _ HB2.out).2.1).mono ?_
      rintro e w3 ⟨a3, c3, b3, d3, rfl, hin3, hb3⟩
      have hN3 : Hp.In w2.heap.size w3.heap.size w3 ⟨a3, c3, b3, d3, vs, zs⟩ := hin3
      have hB3 := HB2.out.trans (hb3.mono HB2.out.size)
      have hz23 := hb3.size
      have hz2 := BR2.out.lt
      have bp3 := BP2.out.below hb3
      have br3 := BR2.out.below hb3
      have ha3 := (Below.refl w3.heap.size w3).alloc (Nat.le_refl _) (.cells #[.int .i64 0, .slice a3 vs.length c3, .slice b3 zs.length d3] 34)
      have bq3 : BoxL (w3.alloc (.cells #[.int .i64 0, .slice a3 vs.length c3, .slice b3 zs.length d3] 34)) w3.heap.size (spCells ⟨0, ⟨a3, c3, b3, d3, vs, zs⟩⟩) := BoxL.new w3 _ _
      have hN4 : Hp.In (w.heap.size + 3) (w3.alloc (.cells #[.int .i64 0, .slice a3 vs.length c3, .slice b3 zs.length d3] 34)).heap.size (w3.alloc (.cells #[.int .i64 0, .slice a3 vs.length c3, .slice b3 zs.length d3] 34)) ⟨a3, c3, b3, d3, vs, zs⟩ :=
        (hN3.same ha3.size (fun k hk => ha3.block k (hN3.has_lt hk).2)).mono (by omega) ha3.size (Nat.le_refl _)
      have hnQ : ¬ Hp.has ⟨a3, c3, b3, d3, vs, zs⟩ w3.heap.size := fun hk => by have := (hN3.has_lt hk).2; omega
      have hB4 := hB3.trans (ha3.mono hB3.size)
      have bp4 := bp3.below ha3
      have br4 := br3.below ha3
      go_wp2
      obtain ⟨W4, hW4⟩ : ∃ W, w3.alloc (.cells #[.int .i64 0, .slice a3 vs.length c3, .slice b3 zs.length d3] 34) = W := ⟨_, rfl⟩
      rw [hW4] at bq3 hN4 hB4 bp4 br4 ⊢
      have hRQ : w.heap.size + 2 < w3.heap.size := by omega
      generalize w3.heap.size = Q at *
      have HB4 := Lib.hid hB4
      have BP4 := Lib.hid bp4
      have BR4 := Lib.hid br4
      have BQ4 := Lib.hid bq3
      have HN4 := Lib.hid hN4
      have HNQ := Lib.hid hnQ
      have HRR := Lib.hid hrr
      clear hW4 bq3 hN4 hB4 bp4 br4 hnQ hB3 hN3 hin3 hb3 ha3 bp3 br3 r0d r1d r2d rfd h0d h1d hrr HB2 BP2 BR2
      go_loopw [31] (fun i wr => ∃ (j : Nat) (q : Int) (N : Hp), j ≤ edges.length ∧ i = .int .i64 (j : Int) ∧ followS ss es (q, N.body) j (edges.drop j) = r0 ∧ BoxL wr Q (spCells ⟨q, N⟩) ∧ N.In (w.heap.size + 3) wr.heap.size wr ∧ ¬ N.has Q ∧ (N.vs.length ≤ 4 ∧ N.zs.length ≤ 6) ∧ Only (fun k => k = Q) W4 wr) (fun i _ => edges.length - (intOf i).toNat)
      case atStart => exact ⟨0, 0, ⟨a3, c3, b3, d3, vs, zs⟩, Nat.zero_le _, rfl, by simpa [Hp.body] using HRR.out, BQ4.out, HN4.out, HNQ.out, ⟨by show vs.length ≤ 4; omega, by show zs.length ≤ 6; omega⟩, Only.refl⟩
      case round =>
        obtain ⟨j, q, N, hj, rfl, hfo, hbq, hNI, hNQ, hNl, hon⟩ := hrel
        have bpr := BP4.out.onlyP hon (by omega)
        have brr := BR4.out.onlyP hon (by omega)
        have hBr := hon.below HB4.out HB4.out.size (fun k hk => by omega)
        by_cases hlt : j < edges.length
        · have HJ1 := Lib.hid (show j + 1 ≤ edges.length from hlt)
          have hek := KEY.out _ hBr
          obtain ⟨eb, eo, rfl, hebl, hec⟩ := hek.2.2.1 j (.int .i64 edges[j]) (intVals_at edges j hlt)
          have hdrop : edges.drop j = edges[j] :: edges.drop (j + 1) := List.drop_eq_getElem_cons hlt
          rw [hdrop] at hfo
          generalize edges[j] = ed at *
          have HFO := Lib.hid hfo
          have p0 := bpr.c 0 _ rfl
          have p1 := bpr.c 1 _ rfl
          have p2 := bpr.c 2 _ rfl
          have q0 := hbq.c 0 _ rfl
          have HBR := Lib.hid hBr
          have BPR := Lib.hid bpr
          have BRR := Lib.hid brr
          have BQR := Lib.hid hbq
          have HNI := Lib.hid hNI
          have HON := Lib.hid hon
          clear hdrop hfo hek hBr bpr brr hbq hNI hon
          go_wp2_with fail
          refine (implEdgesFrom va ba ss.length vc bc es n q _ HE (KEY.out _ HBR.out).1.2).mono ?_
          rintro e w5 ⟨ag, cg, rfl, hcg, hg, hb5⟩
          have hpl : (posFrom q 0 (fromsOf es)).length ≤ 1048576 := Nat.le_trans (posFrom_length _ _ _) (by rw [fromsOf_length]; exact HE)
          rw [intVals_length] at *
          go_wp2_with fail
          refine (libContains ag cg (posFrom q 0 (fromsOf es)) ed _ (by unfold maxLen; omega) (Row.owned hg)).mono ?_
          rw [hasEdge_mem es q ed N.body]
          rintro e w6 ⟨rfl, rfl⟩
          have HB5 := Lib.hid (HBR.out.trans (hb5.mono HBR.out.size))
          have bp5 := BPR.out.below hb5
          have br5 := BRR.out.below hb5
          have bq5 := BQR.out.below hb5
          have HN5 := Lib.hid ((HNI.out.same hb5.size (fun k hk => hb5.block k (HNI.out.has_lt hk).2)).mono (Nat.le_refl _) hb5.size (Nat.le_refl _))
          have HON5 := Lib.hid (HON.out.trans (Only.of_below hb5))
          have HP5 := Lib.hid bp5
          have HR5 := Lib.hid br5
          have HQ5 := Lib.hid bq5
          clear p0 p1 p2 q0 hb5 hg bp5 br5 bq5 hec HBR BPR BRR BQR HNI HON
          cases hin : hasEdge es q ed
          case' false =>
            have hre : ((q, N.body), (7 : Int), (j : Int)) = r0 := by
              have h1 := HFO.out
              rw [followS, if_neg (by rw [hin]; simp)] at h1
              exact h1
            subst hre
            have z0 := HQ5.out.c 0 _ rfl
            have z1 := HQ5.out.c 1 _ rfl
            have z2 := HQ5.out.c 2 _ rfl
            have y0 := HR5.out.c 0 _ rfl
            have y1 := HR5.out.c 1 _ rfl
            have y2 := HR5.out.c 2 _ rfl
            have yf := HR5.out.f
            clear hin
            go_wp2
            obtain ⟨V, hV, bV, oV⟩ := put3 HR5.out (.int .i64 q) (.slice N.a N.vs.length N.ca) (.slice N.b N.zs.length N.cb)
            rw [hV]
            clear hV
            have s0 := bV.c 0 _ rfl
            have s1 := bV.c 1 _ rfl
            have s2 := bV.c 2 _ rfl
            have hNV := (HN5.out).same oV.size (fun k hk => oV.block k ((HN5.out).has_lt hk).2 (by have := ((HN5.out).has_lt hk).1; omega))
            exact bodyPost_ret (v := .tuple #[spC q N.a N.vs.length N.ca N.b N.zs.length N.cb, .int .i64 7, .int .i64 (j : Int)]) (by simp [results, Tryz.results8, go_sem, s0, s1, s2]) rfl ⟨N.a, N.ca, N.b, N.cb, rfl, hNV.mono (by omega) oV.size (Nat.le_refl _), oV.below (HB5.out) (HB5.out).size (fun k hk => by omega)⟩
          case' true =>
            obtain ⟨⟨hge, hle⟩, hfe⟩ : (0 ≤ ed ∧ ed ≤ (es.length : Int) - 1) ∧ (es.getD ed.toNat ⟨0, 0, 0, ⟨#[]⟩, ⟨#[]⟩⟩).f = q := by simpa [hasEdge] using hin
            obtain ⟨m, rfl⟩ : ∃ m : Nat, ed = (m : Int) := ⟨ed.toNat, by omega⟩
            have hml : m < es.length := by omega
            have hxe : edgeAt es (m : Int) = es[m] := by simp [edgeAt, hml]
            have hfo := HFO.out
            rw [followS, if_pos hin, hxe] at hfo
            obtain ⟨bb, bo, rfl, hbbl, _⟩ := (KEY.out _ HB5.out).1.2.edge m hml
            have hEA : ∀ W, Below w5.heap.size w5 W → EdAt W bb (bo + m * 5) es[m] := fun W hb => by
              obtain ⟨bb', bo', e, _, hE⟩ := (KEY.out _ (HB5.out.trans (hb.mono HB5.out.size))).1.2.edge m hml
              injection e with e
              injection e with e1 e2 _
              subst e1 e2
              exact hE
            generalize es[m] = x at *
            obtain ⟨c9, us, ys, hex⟩ : ∃ c us ys, execS ss x.k x.a x.b N.vs N.zs = (c, us, ys) := ⟨_, _, _, rfl⟩
            have hfo2 : (if c9 = 0 then followS ss es (x.t, (us, ys)) ((j : Int) + 1) (edges.drop (j + 1)) else ((q, N.body), c9, (j : Int))) = r0 := by
              rw [show (q, N.body).2.1 = N.vs from rfl, show (q, N.body).2.2 = N.zs from rfl, hex] at hfo
              exact hfo
            have hS : ∀ W, Below w5.heap.size w5 W → ((W.cell? ⟨w.heap.size, 0, none⟩ = some (.slice va ss.length vc) ∧ W.cell? ⟨w.heap.size, 1, none⟩ = some (.int .i64 n) ∧ W.cell? ⟨w.heap.size, 2, none⟩ = some (.slice (some ⟨bb, bo, none⟩) es.length bc)) ∧ (W.cell? ⟨Q, 0, none⟩ = some (.int .i64 q) ∧ W.cell? ⟨Q, 1, none⟩ = some (.slice N.a N.vs.length N.ca) ∧ W.cell? ⟨Q, 2, none⟩ = some (.slice N.b N.zs.length N.cb))) ∧ (W.cell? ⟨bb, bo + m * 5, none⟩ = some (.int .i64 x.f) ∧ W.cell? ⟨bb, bo + m * 5 + 1, none⟩ = some (.int .i64 x.t) ∧ W.cell? ⟨bb, bo + m * 5 + 2, none⟩ = some (.int .i64 x.k) ∧ W.cell? ⟨bb, bo + m * 5 + 3, none⟩ = some (.string x.a) ∧ W.cell? ⟨bb, bo + m * 5 + 4, none⟩ = some (.string x.b)) := fun W hb =>
              have hp := HP5.out.below hb
              have hq := HQ5.out.below hb
              have hE := hEA W hb
              ⟨⟨⟨hp.c 0 _ rfl, hp.c 1 _ rfl, hp.c 2 _ rfl⟩, hq.c 0 _ rfl, hq.c 1 _ rfl, hq.c 2 _ rfl⟩, hE.f, hE.t, hE.k, hE.a, hE.b⟩
            have hK5 : ∀ W, Below w5.heap.size w5 W → Row W W.heap.size va (strVals ss) ∧ HeapAt W N.a N.b N.vs N.zs ∧ HasNamesTable W := fun W hb =>
              have hk := KEY.out _ (HB5.out.trans (hb.mono HB5.out.size))
              ⟨hk.1.1, (HN5.out.at_).below hb, hk.2.2.2⟩
            have HS5 := Lib.hid hS
            have HK5 := Lib.hid hK5
            have HEX := Lib.hid hex
            have HFO2 := Lib.hid hfo2
            have hv4 : N.vs.length ≤ maxLen := by unfold maxLen; omega
            have hz4 : N.zs.length ≤ maxLen := by unfold maxLen; omega
            have hD : Below w5.heap.size w5 w5.drew := Below.drew (Below.refl _ _)
            clear hS hK5 hex hfo hfo2 hEA hxe hfe hin HFO
            go_wp2
            go_region_held3 (fun W => ((W.cell? ⟨w.heap.size, 0, none⟩ = some (.slice va ss.length vc) ∧ W.cell? ⟨w.heap.size, 1, none⟩ = some (.int .i64 n) ∧ W.cell? ⟨w.heap.size, 2, none⟩ = some (.slice (some ⟨bb, bo, none⟩) es.length bc)) ∧ (W.cell? ⟨Q, 0, none⟩ = some (.int .i64 q) ∧ W.cell? ⟨Q, 1, none⟩ = some (.slice N.a N.vs.length N.ca) ∧ W.cell? ⟨Q, 2, none⟩ = some (.slice N.b N.zs.length N.cb))) ∧ (W.cell? ⟨bb, bo + m * 5, none⟩ = some (.int .i64 x.f) ∧ W.cell? ⟨bb, bo + m * 5 + 1, none⟩ = some (.int .i64 x.t) ∧ W.cell? ⟨bb, bo + m * 5 + 2, none⟩ = some (.int .i64 x.k) ∧ W.cell? ⟨bb, bo + m * 5 + 3, none⟩ = some (.string x.a) ∧ W.cell? ⟨bb, bo + m * 5 + 4, none⟩ = some (.string x.b)))
              (first | exact HS5.out _ (by repeat (first | with_reducible exact Below.refl _ _ | with_reducible assumption | with_reducible refine Below.drew ?_ | with_reducible refine Below.setCell ?_ (by first | exact Nat.le_refl _ | exact z7) _ | with_reducible refine Below.alloc ?_ (by first | exact Nat.le_refl _ | exact z7) _)))
              (first
                | (go_at_call 55; (with_reducible refine (implPerform va vc ss n (some ⟨bb, bo, none⟩) bc es.length q N.a N.b N.ca N.cb N.vs N.zs x _ HS.out.1 HS.out.2 (HK5.out _ (by repeat (first | with_reducible exact Below.refl _ _ | with_reducible assumption | with_reducible refine Below.drew ?_ | with_reducible refine Below.alloc ?_ (Nat.le_refl _) _))).1 hv4 hz4 (HK5.out _ (by repeat (first | with_reducible exact Below.refl _ _ | with_reducible assumption | with_reducible refine Below.drew ?_ | with_reducible refine Below.alloc ?_ (Nat.le_refl _) _))).2.1 (HK5.out _ (by repeat (first | with_reducible exact Below.refl _ _ | with_reducible assumption | with_reducible refine Below.drew ?_ | with_reducible refine Below.alloc ?_ (Nat.le_refl _) _))).2.2).mono ?_); rw [HEX.out]; rintro e w7 ⟨t7, xa, xca, xb, xcb, ht7, rfl, hin7, hb7⟩; have H7 : Below w5.heap.size w5 w7 := Below.trans (by repeat (first | with_reducible exact Below.refl _ _ | with_reducible assumption | with_reducible refine Below.drew ?_ | with_reducible refine Below.alloc ?_ (Nat.le_refl _) _)) (hb7.mono (by first | exact Nat.le_refl _ | (simp; done))); have z7 := H7.size; (try (have bA7 : BoxL w7 w5.heap.size [.int .i64 0, .slice none 0 0, .slice none 0 0] := BoxL.below (BoxL.new w5.drew [.int .i64 0, .slice none 0 0, .slice none 0 0] 34) hb7; have e70 := bA7.c 0 _ rfl; have e71 := bA7.c 1 _ rfl; have e72 := bA7.c 2 _ rfl; have f70 := bA7.f; have l70 := bA7.lt)); skip)
                | fail)
            all_goals
              have hQ5 := HQ5.out.lt
              first
                | (obtain ⟨WA, hWA, bA, hNA, hBA⟩ := after_alloc (w5 := w5) (t7 := t7) 34 hin7 (Nat.le_refl _) H7
                   rw [hWA])
                | (obtain ⟨WA, hWA, bA, hNA, hBA⟩ := after_store (w5 := w5) (t7 := t7) bA7 (Nat.le_refl _) (by simp) hin7 H7
                   rw [hWA])
              clear hWA hin7 hb7 H7 hD
              try clear e70 e71 e72 f70 l70 bA7
              have hbq := HQ5.out.below hBA
              have hbr := HR5.out.below hBA
              have z0 := hbq.c 0 _ rfl
              have z1 := hbq.c 1 _ rfl
              have z2 := hbq.c 2 _ rfl
              have HBA := Lib.hid hBA
              have HB9 := Lib.hid (HB5.out.trans (hBA.mono HB5.out.size))
              have HN9 := Lib.hid ((HN5.out.same hBA.size (fun k hk => hBA.block k (HN5.out.has_lt hk).2)).mono (Nat.le_refl _) hBA.size (Nat.le_refl _))
              have HNA := Lib.hid hNA
              have hzA := hBA.size
              clear hBA hNA
              by_cases hc9 : c9 = 0
              case' neg =>
                have hre : ((q, N.body), c9, (j : Int)) = r0 := by
                  have h1 := HFO2.out
                  rw [if_neg hc9] at h1
                  exact h1
                subst hre
                have hcb : (c9 == 0) = false := by simpa using hc9
                have y0 := hbr.c 0 _ rfl
                have y1 := hbr.c 1 _ rfl
                have y2 := hbr.c 2 _ rfl
                have yf := hbr.f
                have HBR9 := Lib.hid hbr
                clear hc9 hbr hbq bA
                go_wp2
                obtain ⟨V, hV, bV, oV⟩ := put3 HBR9.out (.int .i64 q) (.slice N.a N.vs.length N.ca) (.slice N.b N.zs.length N.cb)
                rw [hV]
                clear hV
                have s0 := bV.c 0 _ rfl
                have s1 := bV.c 1 _ rfl
                have s2 := bV.c 2 _ rfl
                have hNV := (HN9.out).same oV.size (fun k hk => oV.block k ((HN9.out).has_lt hk).2 (by have := ((HN9.out).has_lt hk).1; omega))
                exact bodyPost_ret (v := .tuple #[spC q N.a N.vs.length N.ca N.b N.zs.length N.cb, .int .i64 c9, .int .i64 (j : Int)]) (by simp [results, Tryz.results8, go_sem, s0, s1, s2]) rfl ⟨N.a, N.ca, N.b, N.cb, rfl, hNV.mono (by omega) oV.size (Nat.le_refl _), oV.below (HB9.out) (HB9.out).size (fun k hk => by omega)⟩
              case' pos =>
                subst hc9
                obtain rfl := ht7 rfl
                have hfo : followS ss es (x.t, (us, ys)) ((j : Int) + 1) (edges.drop (j + 1)) = r0 := by
                  have h1 := HFO2.out
                  rw [if_pos rfl] at h1
                  exact h1
                have hup := heapB_parts (exec_heap HEX.out)
                have a0 := bA.c 0 _ rfl
                have a1 := bA.c 1 _ rfl
                have a2 := bA.c 2 _ rfl
                have zf := hbq.f
                have HFO3 := Lib.hid hfo
                have HBQ9 := Lib.hid hbq
                clear hfo hbr hbq
                go_wp2
                go_roundw
                case rel =>
                  obtain ⟨V, hV, bV, oV⟩ := put3 HBQ9.out (.int .i64 x.t) (.slice xa us.length xca) (.slice xb ys.length xcb)
                  rw [hV]
                  have hNV := (HNA.out).same oV.size (fun k hk => oV.block k ((HNA.out).has_lt hk).2 (by have := ((HNA.out).has_lt hk).1; omega))
                  refine ⟨j + 1, x.t, ⟨xa, xca, xb, xcb, us, ys⟩, HJ1.out, by go_num, ?_, bV, hNV.mono (by omega) oV.size (Nat.le_refl _), fun hk => by have := ((HNA.out).has_lt hk).1; omega, ⟨hup.1.2.1, hup.2.1⟩, (HON5.out.trans (Only.of_below HBA.out)).trans oV⟩
                  rw [show (((j + 1 : Nat)) : Int) = (j : Int) + 1 by omega]
                  exact HFO3.out
                case measure => have := HJ1.out; simp [intOf]; omega
        · obtain rfl : j = edges.length := by omega
          have hre : ((q, N.body), (0 : Int), (edges.length : Int)) = r0 := by
            rw [List.drop_length, followS] at hfo
            exact hfo
          subst hre
          have z0 := hbq.c 0 _ rfl
          have z1 := hbq.c 1 _ rfl
          have z2 := hbq.c 2 _ rfl
          have y0 := brr.c 0 _ rfl
          have y1 := brr.c 1 _ rfl
          have y2 := brr.c 2 _ rfl
          have yf := brr.f
          have HBR := Lib.hid hBr
          have BRR := Lib.hid brr
          have HNI := Lib.hid hNI
          clear hBr bpr brr hbq hNI hon hfo
          go_wp2
          obtain ⟨V, hV, bV, oV⟩ := put3 BRR.out (.int .i64 q) (.slice N.a N.vs.length N.ca) (.slice N.b N.zs.length N.cb)
          rw [hV]
          clear hV
          have s0 := bV.c 0 _ rfl
          have s1 := bV.c 1 _ rfl
          have s2 := bV.c 2 _ rfl
          have hNV := (HNI.out).same oV.size (fun k hk => oV.block k ((HNI.out).has_lt hk).2 (by have := ((HNI.out).has_lt hk).1; omega))
          exact bodyPost_ret (v := .tuple #[spC q N.a N.vs.length N.ca N.b N.zs.length N.cb, .int .i64 0, .int .i64 (edges.length : Int)]) (by simp [results, Tryz.results8, go_sem, s0, s1, s2]) rfl ⟨N.a, N.ca, N.b, N.cb, rfl, hNV.mono (by omega) oV.size (Nat.le_refl _), oV.below (HBR.out) (HBR.out).size (fun k hk => by omega)⟩
end Go.Proofs.YtpmmjaceehlpiaaGreatDoor
