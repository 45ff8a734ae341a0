/-
  The model's Follow.
-/
import Derived.Lib.QuietBelow
import Derived.Test.YtpmmjaceehlpiaaGreatDoorR19
import Derived.Test.YtpmmjaceehlpiaaGreatDoorR03
import Derived.Test.YtpmmjaceehlpiaaGreatDoorR24
import Derived.Test.YtpmmjaceehlpiaaGreatDoorR20
import Derived.Test.YtpmmjaceehlpiaaGreatDoorR18
namespace Go.Proofs.YtpmmjaceehlpiaaGreatDoor
open Go Go.RowKit Go.ChangeShapes Go.WideShapes Go.ChangeAt Go.Sort

def FollowEnd (r : Sb × Int × Int) (w : World) (e : Ending) (w' : World) : Prop :=
  ∃ a c b d, e = .returned (.tuple #[spC r.1.1 a r.1.2.1.length c b r.1.2.2.length d, .int .i64 r.2.1, .int .i64 r.2.2]) ∧ HeapIn w.heap.size w'.heap.size w' a c b d (intVals r.1.2.1) (intVals r.1.2.2) ∧ Below w.heap.size w w'
theorem BoxL.only {S : Nat → Prop} {W W' : World} {g : Nat} {xs : List Value} (h : BoxL W g xs) (t : Only S W W') (hd : ¬ S g) : BoxL W' g xs :=
  ⟨fun i x hx => (World.cell?_of_block (t.block g h.lt hd)).trans (h.c i x hx), fun o => (World.frozen?_of_block (t.block g h.lt hd)).trans (h.f o), Nat.lt_of_lt_of_le h.lt t.size⟩
theorem set3 {W : World} {R : Nat} {x0 y0 z0 : Value} (br : BoxL W R [x0, y0, z0]) (x y z : Value) : ∃ V, ((W.setCell ⟨R, 0, none⟩ x).setCell ⟨R, 1, none⟩ y).setCell ⟨R, 2, none⟩ z = V ∧ BoxL V R [x, y, z] ∧ Only (fun k => k = R) W V :=
  have o : ∀ (W : World) (i : Nat) (u : Value), Only (fun k => k = R) W (W.setCell ⟨R, i, none⟩ u) := fun W i u => Only.set (S := fun k => k = R) rfl
  ⟨_, rfl, ((br.set 0 x).set 1 y).set 2 z, ((o _ _ _).trans (o _ _ _)).trans (o _ _ _)⟩
set_option maxRecDepth 100000 in
set_option maxHeartbeats 3200000 in
theorem specFollow (va : Option Addr) (vc : Nat) (ss : List ByteArray) (n : Int) (ba : Option Addr) (bc : Nat) (es : List Ed) (a b : Option Addr) (ca cb : Nat) (vs zs : List Int) (ea : Option Addr) (ec : Nat) (edges : List Int) (w : World)
    (hs : ss.length ≤ maxLen ∧ (∀ s ∈ ss, s.size ≤ maxLen) ∧ Row w w.heap.size va (strVals ss)) (hn : -9223372036854775808 ≤ n ∧ n ≤ 9223372036854775807) (he : es.length ≤ maxLen ∧ Row w w.heap.size ba (edVals es)) (hlv : vs.length ≤ maxLen) (hlz : zs.length ≤ maxLen) (h : HeapAt w a b vs zs) (hna : a = none → ca = 0) (hnb : b = none → cb = 0)
    (hel : edges.length ≤ maxLen) (her : Row w w.heap.size ea (intVals edges)) (hew : ∀ x ∈ edges, -9223372036854775808 ≤ x ∧ x ≤ 9223372036854775807) :
    Calls Tryz.prog 9 #[.agg #[.slice va ss.length vc, .int .i64 n, .slice ba es.length bc], heV a vs.length ca b zs.length cb, .slice ea edges.length ec] w (FollowEnd (follow0 ss n es vs zs edges) w) := by
  unfold maxLen at hel
  obtain ⟨r0, hr0⟩ : ∃ r, follow0 ss n es vs zs edges = r := ⟨_, rfl⟩
  rw [hr0]
  obtain ⟨pb, hpb⟩ : ∃ pb, progB ss n es = pb := ⟨_, rfl⟩
  obtain ⟨hb, hhb⟩ : ∃ hb, heapB (ss.length : Int) vs zs = hb := ⟨_, rfl⟩
  have HPB := Lib.hid hpb
  have HHB := Lib.hid hhb
  have HR := Lib.hid hr0
  have key : ∀ W, Below w.heap.size w W → (Row W W.heap.size va (strVals ss) ∧ Row W W.heap.size ba (edVals es)) ∧ HeapAt W a b vs zs ∧ Row W W.heap.size ea (intVals edges) := fun W hb => ⟨⟨(hs.2.2.below hb).grow hb.size, (he.2.below hb).grow hb.size⟩, h.below hb (Nat.le_refl _), (her.below hb).grow hb.size⟩
  have KEY := Lib.hid key
  have HS := Lib.hid (And.intro hs.1 hs.2.1)
  have HE := Lib.hid he.1
  have HEW := Lib.hid hew
  clear hpb hhb hr0 key hs he her hew h
  go_enter Tryz.func9, Tryz.ntmps9
  go_wp2_with fail
  obtain ⟨W0, hW0, hb0, bp0, bh0, br0⟩ := three_boxL w [.slice va ss.length vc, .int .i64 n, .slice ba es.length bc] [.slice a vs.length ca, .slice b zs.length cb] [.int .i64 0, .slice none 0 0, .slice none 0 0] 27 30 34
  simp only [List.toArray] at hW0
  rw [hW0]
  clear hW0
  have hz0 := br0.lt
  refine (specIsProgram va ba vc bc ss n es _ ⟨HS.out.1, HS.out.2, (KEY.out _ hb0).1.1⟩ hn ⟨HE.out, (KEY.out _ hb0).1.2⟩).mono ?_
  rw [HPB.out]
  rintro e w1 ⟨rfl, hb1⟩
  have hB1 := hb0.trans (hb1.mono hb0.size)
  have bp1 := bp0.below hb1
  have bh1 := bh0.below hb1
  have br1 := br0.below hb1
  have r0c := br1.c 0 _ rfl
  have r1c := br1.c 1 _ rfl
  have r2c := br1.c 2 _ rfl
  have rf := br1.f
  have p0c := bp1.c 0 _ rfl
  have h0c := bh1.c 0 _ rfl
  have h1c := bh1.c 1 _ rfl
  have HB1 := Lib.hid hB1
  have BP1 := Lib.hid bp1
  have BH1 := Lib.hid bh1
  have BR1 := Lib.hid br1
  clear hb0 bp0 bh0 br0 hb1 hB1 bp1 bh1 br1
  cases pb
  case' false =>
    have hrr : ((0, ([], [])), 7, 0) = r0 := by rw [← HR.out, follow0, HPB.out]; simp
    subst hrr
    go_wp2
    obtain ⟨V, hV, bV, oV⟩ := set3 BR1.out (.int .i64 0) (.slice none 0 0) (.slice none 0 0)
    rw [hV]
    clear hV
    have q0 := bV.c 0 _ rfl
    have q1 := bV.c 1 _ rfl
    have q2 := bV.c 2 _ rfl
    exact bodyPost_ret (v := .tuple #[spC 0 none 0 0 none 0 0, .int .i64 7, .int .i64 0]) (by simp [results, Tryz.results9, go_sem, q0, q1, q2]) rfl ⟨none, 0, none, 0, rfl, heapIn_nil (Nat.le_refl _), oV.below HB1.out HB1.out.size (fun k hk => by omega)⟩
  case' true =>
    go_wp2_with fail
    refine (specIsHeap (ss.length : Int) a b ca cb vs zs _ hlv hlz (KEY.out _ HB1.out).2.1).mono ?_
    rw [HHB.out]
    rintro e w2 ⟨rfl, hb2⟩
    have hB2 := HB1.out.trans (hb2.mono HB1.out.size)
    have bp2 := BP1.out.below hb2
    have bh2 := BH1.out.below hb2
    have br2 := BR1.out.below hb2
    have r0d := br2.c 0 _ rfl
    have r1d := br2.c 1 _ rfl
    have r2d := br2.c 2 _ rfl
    have rfd := br2.f
    have h0d := bh2.c 0 _ rfl
    have h1d := bh2.c 1 _ rfl
    have HB2 := Lib.hid hB2
    have BP2 := Lib.hid bp2
    have BR2 := Lib.hid br2
    clear r0c r1c r2c rf p0c h0c h1c hB2 bp2 bh2 br2 hb2 HB1 BP1 BH1 BR1
    cases hb
    case' false =>
      have hrr : ((0, ([], [])), 7, 0) = r0 := by rw [← HR.out, follow0, HPB.out, HHB.out]; simp
      subst hrr
      go_wp2
      obtain ⟨V, hV, bV, oV⟩ := set3 BR2.out (.int .i64 0) (.slice none 0 0) (.slice none 0 0)
      rw [hV]
      clear hV
      have q0 := bV.c 0 _ rfl
      have q1 := bV.c 1 _ rfl
      have q2 := bV.c 2 _ rfl
      exact bodyPost_ret (v := .tuple #[spC 0 none 0 0 none 0 0, .int .i64 7, .int .i64 0]) (by simp [results, Tryz.results9, go_sem, q0, q1, q2]) rfl ⟨none, 0, none, 0, rfl, heapIn_nil (Nat.le_refl _), oV.below HB2.out HB2.out.size (fun k hk => by omega)⟩
    case' true =>
      have hrr : followS ss es (0, (vs, zs)) 0 edges = r0 := by rw [← HR.out, follow0, HPB.out, HHB.out]; simp
      have hHP := heapB_parts HHB.out
      go_wp2_with fail
      refine (specCopy a b ca cb vs zs _ hna hnb (KEY.out _ HB2.out).2.1 (by omega) (by omega)).mono ?_
      rintro e w3 ⟨a3, c3, b3, d3, rfl, hin3, hb3⟩
      have hN3 : Hp.In w2.heap.size w3.heap.size w3 ⟨a3, c3, b3, d3, vs, zs⟩ := hin3
      have hB3 := HB2.out.trans (hb3.mono HB2.out.size)
      have hz23 := hb3.size
      have hz2 := BR2.out.lt
      have bp3 := BP2.out.below hb3
      have br3 := BR2.out.below hb3
      have ha3 := (Below.refl w3.heap.size w3).alloc (Nat.le_refl _) (.cells #[.int .i64 0, .slice a3 vs.length c3, .slice b3 zs.length d3] 34)
      have bq3 : BoxL (w3.alloc (.cells #[.int .i64 0, .slice a3 vs.length c3, .slice b3 zs.length d3] 34)) w3.heap.size (spCells ⟨0, ⟨a3, c3, b3, d3, vs, zs⟩⟩) := BoxL.new w3 _ _
      have hN4 : Hp.In (w.heap.size + 3) (w3.alloc (.cells #[.int .i64 0, .slice a3 vs.length c3, .slice b3 zs.length d3] 34)).heap.size (w3.alloc (.cells #[.int .i64 0, .slice a3 vs.length c3, .slice b3 zs.length d3] 34)) ⟨a3, c3, b3, d3, vs, zs⟩ :=
        (hN3.same ha3.size (fun k hk => ha3.block k (hN3.has_lt hk).2)).mono (by omega) ha3.size (Nat.le_refl _)
      have hnQ : ¬ Hp.has ⟨a3, c3, b3, d3, vs, zs⟩ w3.heap.size := fun hk => by have := (hN3.has_lt hk).2; omega
      have hB4 := hB3.trans (ha3.mono hB3.size)
      have bp4 := bp3.below ha3
      have br4 := br3.below ha3
      go_wp2
      obtain ⟨W4, hW4⟩ : ∃ W, w3.alloc (.cells #[.int .i64 0, .slice a3 vs.length c3, .slice b3 zs.length d3] 34) = W := ⟨_, rfl⟩
      rw [hW4] at bq3 hN4 hB4 bp4 br4 ⊢
      have hRQ : w.heap.size + 2 < w3.heap.size := by omega
      generalize w3.heap.size = Q at *
      have HB4 := Lib.hid hB4
      have BP4 := Lib.hid bp4
      have BR4 := Lib.hid br4
      have BQ4 := Lib.hid bq3
      have HN4 := Lib.hid hN4
      have HNQ := Lib.hid hnQ
      have HRR := Lib.hid hrr
      clear hW4 bq3 hN4 hB4 bp4 br4 hnQ hB3 hN3 hin3 hb3 ha3 bp3 br3 r0d r1d r2d rfd h0d h1d hrr HB2 BP2 BR2
      go_loopw [10] (fun i wr => ∃ (j : Nat) (q : Int) (N : Hp), j ≤ edges.length ∧ i = .int .i64 (j : Int) ∧ followS ss es (q, N.body) j (edges.drop j) = r0 ∧ BoxL wr Q (spCells ⟨q, N⟩) ∧ N.In (w.heap.size + 3) wr.heap.size wr ∧ ¬ N.has Q ∧ (N.vs.length ≤ 4 ∧ N.zs.length ≤ 6) ∧ Only (fun k => k = Q) W4 wr) (fun i _ => edges.length - (intOf i).toNat)
      case atStart => exact ⟨0, 0, ⟨a3, c3, b3, d3, vs, zs⟩, Nat.zero_le _, rfl, by simpa [Hp.body] using HRR.out, BQ4.out, HN4.out, HNQ.out, ⟨by show vs.length ≤ 4; omega, by show zs.length ≤ 6; omega⟩, Only.refl⟩
      case round =>
        obtain ⟨j, q, N, hj, rfl, hfo, hbq, hNI, hNQ, hNl, hon⟩ := hrel
        have bpr := BP4.out.only hon (by omega)
        have brr := BR4.out.only hon (by omega)
        have hBr := hon.below HB4.out HB4.out.size (fun k hk => by omega)
        by_cases hlt : j < edges.length
        · have HJ1 := Lib.hid (show j + 1 ≤ edges.length from hlt)
          have hek := KEY.out _ hBr
          obtain ⟨eb, eo, rfl, hebl, hec⟩ := hek.2.2 j (.int .i64 edges[j]) (intVals_at edges j hlt)
          have hdrop : edges.drop j = edges[j] :: edges.drop (j + 1) := List.drop_eq_getElem_cons hlt
          rw [hdrop] at hfo
          have hew := HEW.out edges[j] (List.getElem_mem hlt)
          generalize edges[j] = ed at *
          have HFO := Lib.hid hfo
          clear hdrop hfo
          obtain ⟨inr, hinr⟩ : ∃ inr, (decide ((0 : Int) ≤ ed) && decide (ed ≤ (es.length : Int) - 1)) = inr := ⟨_, rfl⟩
          have HINR := Lib.hid hinr
          have hSa : ∀ W, Below wr.heap.size wr W → W.cell? ⟨eb, eo + j, none⟩ = some (.int .i64 ed) ∧ W.cell? ⟨w.heap.size, 2, none⟩ = some (.slice ba es.length bc) := fun W hb => ⟨(hb.cell (p := ⟨eb, eo + j, none⟩) hebl).trans hec, (bpr.below hb).c 2 _ rfl⟩
          have HSA := Lib.hid hSa
          have hlz := wrap_less (n := es.length) (by have := HE.out; unfold maxLen at this; omega)
          have HC := Lib.hid (show ∀ d os, Calls Tryz.prog 58 #[.int .i64 ed, .int .i64 0, .int .i64 ((es.length : Int) - 1)] (grow (redrawn wr d) os) (GaveX (.bool inr) (grow (redrawn wr d) os)) from fun d os => (specIn ed 0 ((es.length : Int) - 1) _).mono fun _ _ ⟨he, hw⟩ => ⟨he.trans (by rw [HINR.out]), hw ▸ Below.refl _ _⟩)
          have c0 := fun d os => cell_regrown hec d os
          have c1 := fun d os => cell_regrown (bpr.c 2 _ rfl) d os
          have r0e := brr.c 0 _ rfl
          have r1e := brr.c 1 _ rfl
          have r2e := brr.c 2 _ rfl
          have rfe := brr.f
          cases inr
          case' false =>
            have hre : ((q, N.body), (7 : Int), (j : Int)) = r0 := by
              have h1 := HFO.out
              rw [followS, if_neg (by rw [hasEdge, HINR.out]; simp)] at h1
              exact h1
            subst hre
            clear hSa hek hec hinr
            go_wp2
            refine wp_region_quiet_below (by kernel_rfl) (by kernel_rfl) ?_
            repeat (go_big_quiet_step (first | (go_at_call 58; with_reducible exact at_again (HC.out _ _))))
            refine wpQuiet_nil ?_
            rintro u1 ⟨⟨d, os⟩, rfl⟩
            have hbU : Below wr.heap.size wr (grow (redrawn wr d) os) := below_regrown wr d os
            obtain ⟨U, hU⟩ : ∃ U, grow (redrawn wr d) os = U := ⟨_, rfl⟩
            simp only [hU] at hbU ⊢
            clear hU
            have hbqU := hbq.below hbU
            have hbrU := brr.below hbU
            have hbpU := bpr.below hbU
            have hNU := (hNI.same hbU.size (fun k hk => hbU.block k (hNI.has_lt hk).2)).mono (Nat.le_refl _) hbU.size (Nat.le_refl _)
            have hBU := hBr.trans (hbU.mono hBr.size)
            have hoU := hon.trans (Only.of_below hbU)
            have z0 := hbqU.c 0 _ rfl
            have z1 := hbqU.c 1 _ rfl
            have z2 := hbqU.c 2 _ rfl
            have y0 := hbrU.c 0 _ rfl
            have y1 := hbrU.c 1 _ rfl
            have y2 := hbrU.c 2 _ rfl
            have yf := hbrU.f
            have HBRU := Lib.hid hbrU
            have HBQU := Lib.hid hbqU
            have HBPU := Lib.hid hbpU
            have HNU := Lib.hid hNU
            have HBU := Lib.hid hBU
            have HOU := Lib.hid hoU
            clear c0 c1 r0e r1e r2e rfe hbq brr bpr hNI hBr hon hbqU hbrU hbpU hNU hBU hoU
            go_wp2
            obtain ⟨V, hV, bV, oV⟩ := set3 (HBRU.out) (.int .i64 q) (.slice N.a N.vs.length N.ca) (.slice N.b N.zs.length N.cb)
            rw [hV]
            clear hV
            have s0 := bV.c 0 _ rfl
            have s1 := bV.c 1 _ rfl
            have s2 := bV.c 2 _ rfl
            have hNV := (HNU.out).same oV.size (fun k hk => oV.block k ((HNU.out).has_lt hk).2 (by have := ((HNU.out).has_lt hk).1; omega))
            exact bodyPost_ret (v := .tuple #[spC q N.a N.vs.length N.ca N.b N.zs.length N.cb, .int .i64 7, .int .i64 (j : Int)]) (by simp [results, Tryz.results9, go_sem, s0, s1, s2]) rfl ⟨N.a, N.ca, N.b, N.cb, rfl, hNV.mono (by omega) oV.size (Nat.le_refl _), oV.below (HBU.out) (HBU.out).size (fun k hk => by omega)⟩
          case' true =>
            obtain ⟨hge, hle⟩ : 0 ≤ ed ∧ ed ≤ (es.length : Int) - 1 := by simpa using hinr
            obtain ⟨m, rfl⟩ : ∃ m : Nat, ed = (m : Int) := ⟨ed.toNat, by omega⟩
            have hml : m < es.length := by omega
            have hxe : edgeAt es (m : Int) = es[m] := by simp [edgeAt, hml]
            obtain ⟨bb, bo, rfl, hbbl, hEA⟩ := hek.1.2.edge m hml
            have hHE : hasEdge es q (m : Int) = decide (es[m].f = q) := by rw [hasEdge, HINR.out]; simp [hml]
            have hfo2 := HFO.out
            rw [followS, hHE, hxe] at hfo2
            generalize es[m] = x at *
            have HF2 := Lib.hid hfo2
            have c2 := fun d os => cell_regrown hEA.f d os
            have c3 := fun d os => cell_regrown (hbq.c 0 _ rfl) d os
            have HEA := Lib.hid hEA
            have hecR := hec
            clear hSa hek hec hinr hHE hxe hfo2 hEA
            by_cases hfq : x.f = q
            case' neg =>
              have hre : ((q, N.body), (7 : Int), (j : Int)) = r0 := by
                have h1 := HF2.out
                rw [if_neg (by simp [hfq])] at h1
                exact h1
              subst hre
              have hne : (x.f == q) = false := by simpa using hfq
              clear hfq
              go_wp2
              refine wp_region_quiet_below (by kernel_rfl) (by kernel_rfl) ?_
              repeat (go_big_quiet_step (first | (go_at_call 58; with_reducible exact at_again (HC.out _ _))))
              refine wpQuiet_nil ?_
              rintro u1 ⟨⟨d, os⟩, rfl⟩
              have hbU : Below wr.heap.size wr (grow (redrawn wr d) os) := below_regrown wr d os
              obtain ⟨U, hU⟩ : ∃ U, grow (redrawn wr d) os = U := ⟨_, rfl⟩
              simp only [hU] at hbU ⊢
              clear hU
              have hbqU := hbq.below hbU
              have hbrU := brr.below hbU
              have hbpU := bpr.below hbU
              have hNU := (hNI.same hbU.size (fun k hk => hbU.block k (hNI.has_lt hk).2)).mono (Nat.le_refl _) hbU.size (Nat.le_refl _)
              have hBU := hBr.trans (hbU.mono hBr.size)
              have hoU := hon.trans (Only.of_below hbU)
              have z0 := hbqU.c 0 _ rfl
              have z1 := hbqU.c 1 _ rfl
              have z2 := hbqU.c 2 _ rfl
              have y0 := hbrU.c 0 _ rfl
              have y1 := hbrU.c 1 _ rfl
              have y2 := hbrU.c 2 _ rfl
              have yf := hbrU.f
              have HBRU := Lib.hid hbrU
              have HBQU := Lib.hid hbqU
              have HBPU := Lib.hid hbpU
              have HNU := Lib.hid hNU
              have HBU := Lib.hid hBU
              have HOU := Lib.hid hoU
              clear c0 c1 c2 c3 r0e r1e r2e rfe hbq brr bpr hNI hBr hon hbqU hbrU hbpU hNU hBU hoU
              go_wp2
              obtain ⟨V, hV, bV, oV⟩ := set3 (HBRU.out) (.int .i64 q) (.slice N.a N.vs.length N.ca) (.slice N.b N.zs.length N.cb)
              rw [hV]
              clear hV
              have s0 := bV.c 0 _ rfl
              have s1 := bV.c 1 _ rfl
              have s2 := bV.c 2 _ rfl
              have hNV := (HNU.out).same oV.size (fun k hk => oV.block k ((HNU.out).has_lt hk).2 (by have := ((HNU.out).has_lt hk).1; omega))
              exact bodyPost_ret (v := .tuple #[spC q N.a N.vs.length N.ca N.b N.zs.length N.cb, .int .i64 7, .int .i64 (j : Int)]) (by simp [results, Tryz.results9, go_sem, s0, s1, s2]) rfl ⟨N.a, N.ca, N.b, N.cb, rfl, hNV.mono (by omega) oV.size (Nat.le_refl _), oV.below (HBU.out) (HBU.out).size (fun k hk => by omega)⟩
            case' pos =>
              obtain ⟨c9, us, ys, hE9⟩ : ∃ c9 us ys, execS ss x.k x.a x.b N.vs N.zs = (c9, us, ys) := ⟨_, _, _, rfl⟩
              have hfo3 : (if c9 = 0 then followS ss es (x.t, (us, ys)) ((j : Int) + 1) (edges.drop (j + 1)) else ((q, N.body), c9, (j : Int))) = r0 := by
                have h1 := HF2.out
                rw [if_pos (by simp [hfq])] at h1
                have h2 : (execS ss x.k x.a x.b N.body.1 N.body.2) = (c9, us, ys) := hE9
                simp only [h2] at h1
                exact h1
              have HF3 := Lib.hid hfo3
              have HE9 := Lib.hid hE9
              have heq : (x.f == q) = true := by simpa using hfq
              clear hfq hfo3 hE9
              go_wp2
              refine wp_region_quiet_below (by kernel_rfl) (by kernel_rfl) ?_
              repeat (go_big_quiet_step (first | (go_at_call 58; with_reducible exact at_again (HC.out _ _))))
              refine wpQuiet_nil ?_
              rintro u1 ⟨⟨d, os⟩, rfl⟩
              have hbU : Below wr.heap.size wr (grow (redrawn wr d) os) := below_regrown wr d os
              obtain ⟨U, hU⟩ : ∃ U, grow (redrawn wr d) os = U := ⟨_, rfl⟩
              simp only [hU] at hbU ⊢
              clear hU
              have hbqU := hbq.below hbU
              have hbrU := brr.below hbU
              have hbpU := bpr.below hbU
              have hNU := (hNI.same hbU.size (fun k hk => hbU.block k (hNI.has_lt hk).2)).mono (Nat.le_refl _) hbU.size (Nat.le_refl _)
              have hBU := hBr.trans (hbU.mono hBr.size)
              have hoU := hon.trans (Only.of_below hbU)
              have z0 := hbqU.c 0 _ rfl
              have z1 := hbqU.c 1 _ rfl
              have z2 := hbqU.c 2 _ rfl
              have y0 := hbrU.c 0 _ rfl
              have y1 := hbrU.c 1 _ rfl
              have y2 := hbrU.c 2 _ rfl
              have yf := hbrU.f
              have HBRU := Lib.hid hbrU
              have HBQU := Lib.hid hbqU
              have HBPU := Lib.hid hbpU
              have HNU := Lib.hid hNU
              have HBU := Lib.hid hBU
              have HOU := Lib.hid hoU
              clear c0 c1 c2 c3 r0e r1e r2e rfe hbq brr bpr hNI hBr hon hbqU hbrU hbpU hNU hBU hoU
              have hecU := (hbU.cell (p := ⟨eb, eo + j, none⟩) hebl).trans hecR
              have p0 := HBPU.out.c 0 _ rfl
              have p2 := HBPU.out.c 2 _ rfl
              obtain ⟨g0, g1, g2, g3, g4⟩ := HEA.out.below hbU hbbl
              have hebU : eb < U.heap.size := Nat.lt_of_lt_of_le hebl hbU.size
              have hbbU : bb < U.heap.size := Nat.lt_of_lt_of_le hbbl hbU.size
              have hpU : w.heap.size < U.heap.size := HBPU.out.lt
              have hn1 : ¬ eb = U.heap.size := by omega
              have hn2 : ¬ bb = U.heap.size := by omega
              have hn3 : ¬ w.heap.size = U.heap.size := by omega
              have hqU : Q < U.heap.size := HBQU.out.lt
              have hn4 : ¬ Q = U.heap.size := by omega
              have HBU2 := Lib.hid hbU
              clear hbU
              go_wp2
              go_region
              go_wp2_with fail
              have hbd : Below U.heap.size U (U.alloc (.cells #[.int .i64 x.f, .int .i64 x.t, .int .i64 x.k, .string x.a, .string x.b] 85)).drew := Below.drew ((Below.refl _ _).alloc (Nat.le_refl _) _)
              have hbt : BoxL (U.alloc (.cells #[.int .i64 x.f, .int .i64 x.t, .int .i64 x.k, .string x.a, .string x.b] 85)).drew U.heap.size [.int .i64 x.f, .int .i64 x.t, .int .i64 x.k, .string x.a, .string x.b] := (BoxL.new U [.int .i64 x.f, .int .i64 x.t, .int .i64 x.k, .string x.a, .string x.b] 85).below (Below.drew (Below.refl _ _))
              obtain ⟨WD, hWD⟩ : ∃ W, (U.alloc (.cells #[.int .i64 x.f, .int .i64 x.t, .int .i64 x.k, .string x.a, .string x.b] 85)).drew = W := ⟨_, rfl⟩
              rw [hWD] at hbd hbt ⊢
              clear hWD
              have hND := (HNU.out.same hbd.size (fun k hk => hbd.block k (HNU.out.has_lt hk).2)).mono (Nat.le_refl _) hbd.size (Nat.le_refl _)
              have hBD := HBU.out.trans (hbd.mono HBU.out.size)
              refine (specExec va vc ss x.k x.a x.b N.a N.b N.ca N.cb N.vs N.zs _ HS.out.1 HS.out.2 (KEY.out _ hBD).1.1 (by unfold maxLen; omega) (by unfold maxLen; omega) hND.at_ (own_none hND.v.2.1) (own_none hND.z.2.1)).mono ?_
              rw [HE9.out]
              rintro e w9 ⟨a9, e9, b9, d9, rfl, hin9, hb9⟩
              dsimp only at hin9
              have hb9U : Below U.heap.size U w9 := hbd.trans (hb9.mono hbd.size)
              have hzD : U.heap.size < WD.heap.size := hbt.lt
              have hqW : Q < WD.heap.size := Nat.lt_trans hqU hzD
              have hrW : w.heap.size + 3 ≤ WD.heap.size := Nat.le_of_lt (Nat.lt_of_le_of_lt HBRU.out.lt hzD)
              have hz9 := hb9.size
              have bq9 := HBQU.out.below hb9U
              have br9 := HBRU.out.below hb9U
              have bt9 := hbt.below hb9
              have m0 := bq9.c 0 _ rfl
              have m1 := bq9.c 1 _ rfl
              have m2 := bq9.c 2 _ rfl
              have mf := bq9.f
              have l0 := br9.c 0 _ rfl
              have l1 := br9.c 1 _ rfl
              have l2 := br9.c 2 _ rfl
              have lf := br9.f
              have t1 := bt9.c 1 _ rfl
              have hq9 : Q < w9.heap.size := bq9.lt
              have hr9 : w.heap.size + 2 < w9.heap.size := br9.lt
              have ht9 : U.heap.size < w9.heap.size := bt9.lt
              have hm1 : ¬ Q = w9.heap.size := by omega
              have hm2 : ¬ w.heap.size + 2 = w9.heap.size := by omega
              have hm2' : ¬ w.heap.size + 1 + 1 = w9.heap.size := by omega
              have hm3 : ¬ U.heap.size = w9.heap.size := by omega
              have HBQ9 := Lib.hid bq9
              have HBR9 := Lib.hid br9
              have HB9 := Lib.hid (HBU.out.trans (hb9U.mono HBU.out.size))
              have HO9 := Lib.hid (HOU.out.trans (Only.of_below hb9U))
              have HN9 := Lib.hid ((HNU.out.same hb9U.size (fun k hk => hb9U.block k (HNU.out.has_lt hk).2)).mono (Nat.le_refl _) hb9U.size (Nat.le_refl _))
              have hM : Hp.In WD.heap.size w9.heap.size w9 ⟨a9, e9, b9, d9, us, ys⟩ := hin9
              have HM9 := Lib.hid hM
              clear g0 g1 g2 g3 g4 p0 p2 hecU z0 z1 z2 y0 y1 y2 yf hbd hbt hND hBD hin9 hb9 hb9U bq9 br9 bt9 hM
              dsimp only
              by_cases hc9 : c9 = 0
              case' neg =>
                have hre : ((q, N.body), c9, (j : Int)) = r0 := by
                  have h1 := HF3.out
                  rw [if_neg hc9] at h1
                  exact h1
                subst hre
                have hc9f : (c9 == 0) = false := by simpa using hc9
                clear hc9
                go_wp2
                obtain ⟨V0, hV0, bV0, oV0⟩ := set3 HBR9.out (.int .i64 q) (.slice N.a N.vs.length N.ca) (.slice N.b N.zs.length N.cb)
                rw [hV0]
                clear hV0
                have haV := (Below.refl V0.heap.size V0).alloc (Nat.le_refl _) (.cells #[.slice a9 us.length e9, .slice b9 ys.length d9] 30)
                obtain ⟨V, hV⟩ : ∃ W, V0.alloc (.cells #[.slice a9 us.length e9, .slice b9 ys.length d9] 30) = W := ⟨_, rfl⟩
                rw [hV] at haV ⊢
                clear hV
                have bV := bV0.below haV
                have s0 := bV.c 0 _ rfl
                have s1 := bV.c 1 _ rfl
                have s2 := bV.c 2 _ rfl
                have hN0 := (HN9.out).same oV0.size (fun k hk => oV0.block k ((HN9.out).has_lt hk).2 (by have := ((HN9.out).has_lt hk).1; omega))
                have hB0V := oV0.below HB9.out HB9.out.size (fun k hk => by omega)
                exact bodyPost_ret (v := .tuple #[spC q N.a N.vs.length N.ca N.b N.zs.length N.cb, .int .i64 c9, .int .i64 (j : Int)]) (by simp [results, Tryz.results9, go_sem, s0, s1, s2]) rfl ⟨N.a, N.ca, N.b, N.cb, rfl, (((hN0.mono (lo' := w.heap.size) (by omega) oV0.size (Nat.le_refl _)).same haV.size (fun k hk => haV.block k (Hp.In.has_lt (hN0.mono (lo' := w.heap.size) (by omega) oV0.size (Nat.le_refl _)) hk).2)).mono (Nat.le_refl _) haV.size (Nat.le_refl _)), hB0V.trans (haV.mono hB0V.size)⟩
              case' pos =>
                subst hc9
                have hHu := heapB_parts (exec_heap HE9.out)
                have hf4 : followS ss es (x.t, (us, ys)) ((j + 1 : Nat) : Int) (edges.drop (j + 1)) = r0 := by
                  have h1 := HF3.out
                  rw [if_pos rfl] at h1
                  rw [show ((j + 1 : Nat) : Int) = (j : Int) + 1 by omega]
                  exact h1
                have HF4 := Lib.hid hf4
                have HLU := Lib.hid (show us.length ≤ 4 ∧ ys.length ≤ 6 from ⟨by omega, by omega⟩)
                clear hf4 hHu
                go_wp2
                obtain ⟨V0, hV0, bV0, oV0⟩ := set3 HBQ9.out (.int .i64 x.t) (.slice a9 us.length e9) (.slice b9 ys.length d9)
                rw [hV0]
                clear hV0
                have haV := (Below.refl V0.heap.size V0).alloc (Nat.le_refl _) (.cells #[.slice a9 us.length e9, .slice b9 ys.length d9] 30)
                obtain ⟨V, hV⟩ : ∃ W, V0.alloc (.cells #[.slice a9 us.length e9, .slice b9 ys.length d9] 30) = W := ⟨_, rfl⟩
                rw [hV] at haV ⊢
                clear hV
                have HV := Lib.hid (bV0.below haV)
                have HOV := Lib.hid ((HO9.out.trans oV0).trans (Only.of_below haV))
                have hM0 := (HM9.out).same oV0.size (fun k hk => oV0.block k ((HM9.out).has_lt hk).2 (by have := ((HM9.out).has_lt hk).1; omega))
                have hz0V := oV0.size
                have hMV := hM0.mono (lo' := w.heap.size + 3) hrW hz0V (Nat.le_refl _)
                have HMV := Lib.hid (show Hp.In (w.heap.size + 3) V.heap.size V ⟨a9, e9, b9, d9, us, ys⟩ from (hMV.same haV.size (fun k hk => haV.block k (hMV.has_lt hk).2)).mono (Nat.le_refl _) haV.size (Nat.le_refl _))
                have HMQ := Lib.hid (show ¬ Hp.has ⟨a9, e9, b9, d9, us, ys⟩ Q from fun hk => absurd (HM9.out.has_lt hk).1 (Nat.not_le_of_lt hqW))
                clear bV0 oV0 hM0 hMV haV m0 m1 m2 mf l0 l1 l2 lf t1
                go_roundw
                case rel =>
                  have hj1 := HJ1.out
                  exact ⟨j + 1, x.t, ⟨a9, e9, b9, d9, us, ys⟩, HJ1.out, by go_num, HF4.out, HV.out, HMV.out, HMQ.out, HLU.out, HOV.out⟩
                case measure =>
                  have hj1 := HJ1.out
                  simp [intOf]
                  omega
        · have hje : j = edges.length := by omega
          rw [hje, List.drop_length] at hfo
          have hre : ((q, N.body), (0 : Int), ((edges.length : Nat) : Int)) = r0 := hfo
          subst hre
          have q0 := hbq.c 0 _ rfl
          have q1 := hbq.c 1 _ rfl
          have q2 := hbq.c 2 _ rfl
          have r0e := brr.c 0 _ rfl
          have r1e := brr.c 1 _ rfl
          have r2e := brr.c 2 _ rfl
          have rfe := brr.f
          have BRR := Lib.hid brr
          have HNI := Lib.hid hNI
          have HBr := Lib.hid hBr
          clear hfo hbq hNI hon bpr brr hBr
          go_wp2
          obtain ⟨V, hV, bV, oV⟩ := set3 BRR.out (.int .i64 q) (.slice N.a N.vs.length N.ca) (.slice N.b N.zs.length N.cb)
          rw [hV]
          clear hV
          have s0 := bV.c 0 _ rfl
          have s1 := bV.c 1 _ rfl
          have s2 := bV.c 2 _ rfl
          have hNV : N.In (w.heap.size + 3) wr.heap.size V := HNI.out.same oV.size (fun k hk => oV.block k (HNI.out.has_lt hk).2 (by have := (HNI.out.has_lt hk).1; omega))
          exact bodyPost_ret (v := .tuple #[spC q N.a N.vs.length N.ca N.b N.zs.length N.cb, .int .i64 0, .int .i64 ((edges.length : Nat) : Int)]) (by simp [results, Tryz.results9, go_sem, s0, s1, s2]) rfl ⟨N.a, N.ca, N.b, N.cb, rfl, hNV.mono (by omega) oV.size (Nat.le_refl _), oV.below HBr.out HBr.out.size (fun k hk => by omega)⟩
end Go.Proofs.YtpmmjaceehlpiaaGreatDoor
