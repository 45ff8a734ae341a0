/-
  The program's states that can be reached: the length of the list, and what the edges of a state add.
-/
import Derived.Test.YtpmmjaceehlpiaaGreatDoorS21
import Derived.Test.YtpmmjaceehlpiaaGreatDoorS24
namespace Go.Proofs.YtpmmjaceehlpiaaGreatDoor
open Go Go.RowKit Go.ChangeShapes Go.WideShapes Go.ChangeAt

theorem implTooLong (L n c : Nat) (a : Option Addr) (m : Value) (w : World) (h : BoxL w L [.slice a n c, m]) (hn : n ≤ 9223372036854775807) :
    Calls Tryz.prog 63 #[.pointer (some ⟨L, 0, none⟩)] w fun e w' => e = .returned (.bool (decide (200 < n))) ∧ w = w' := by
  have c0 := h.c 0 _ rfl
  by_cases h2 : 200 < n
  all_goals
    go_enter Tryz.func63, Tryz.ntmps63
    go_wp2
    go_ret
    exact ⟨by simp [h2]; omega, rfl⟩

theorem fits_small {k : Int} (h1 : -1 ≤ k) (h2 : k ≤ 1000) : Fits k := ⟨by omega, by omega⟩
theorem goodB_fits {zs l : List Int} (hz : zs.length ≤ 6) (h : goodB zs l = true) : ∀ k ∈ l, Fits k := fun k hk => by
  rcases (good_iff.1 h) k hk with e | e
  · exact fits_small (by omega) (by omega)
  · have := isC_iff.1 e
    exact fits_small (by omega) (by omega)
theorem kx_heap {n : Nat} {t : Int} {us ys : List Int} (h : heapB (n : Int) us ys = true) (ht : Fits t) : Kx n (t, (us, ys)) := by
  obtain ⟨⟨h1, h2, h3⟩, h6, g1, g2, _⟩ := heapB_parts h
  exact ⟨by omega, by show us.length = n; omega, h6, ht, goodB_fits h6 g1, goodB_fits h6 g2⟩
/-- What a round adds. -/
def MoreEnd (H : Type) (base L mb n : Nat) (bs : List Sb) (v : Value) (ss : List Sp) (w : World) (e : Ending) (w' : World) : Prop :=
  e = .returned (.tuple #[]) ∧ ∃ v' ss', ListIs H base L mb n bs w' v' ss' ∧ (∃ r, ss' = ss ++ r) ∧ Only (fun k => k = L ∨ k = mb ∨ v.ownBlock = some k) w w' ∧ (v'.ownBlock = v.ownBlock ∨ ∃ k, v'.ownBlock = some k ∧ w.heap.size ≤ k)
theorem own_onlyA {S : Nat → Prop} {W W' : World} {base e size n : Nat} {v : Value} {xs : List Value} (h : W.ownsRow base e size v n xs) (t : Only S W W') (hd : ∀ k, v.ownBlock = some k → ¬ S k) : W'.ownsRow base e size v n xs :=
  ((OwnIn.of h).same t.size fun k hk => t.block k (h.lt k hk).2 (hd k hk)).2.1
theorem fold_len {nm : List ByteArray} {es : List Ed} (st : Sb) : ∀ (ls : List Int) (l : List Sb), (ls.foldl (stepS nm es st) l).length ≤ l.length + ls.length
  | [], l => by simp
  | e :: ls, l => by
    have h1 := fold_len (nm := nm) (es := es) st ls (stepS nm es st l e)
    have h2 : (stepS nm es st l e).length ≤ l.length + 1 := by
      unfold stepS
      split
      · exact (putS_len _ _).2
      · omega
    rw [List.foldl_cons, List.length_cons]
    omega
theorem fold_next {nm : List ByteArray} {es : List Ed} (st : Sb) (ls : List Int) (l : List Sb) (k : Nat) (h : k < ls.length) : (ls.take (k + 1)).foldl (stepS nm es st) l = stepS nm es st ((ls.take k).foldl (stepS nm es st) l) ls[k] := by
  rw [take_next ls k h, List.foldl_append]
  rfl
set_option maxRecDepth 100000 in
set_option maxHeartbeats 3200000 in
theorem implAddAfter {H : Type} (base L mb B0 : Nat) (bs : List Sb) (v : Value) (ss : List Sp) (va : Option Addr) (vc : Nat) (nm : List ByteArray) (np : Int) (ba : Option Addr) (bc : Nat) (es : List Ed) (i : Nat) (hi : i < ss.length) (w : World)
    (hl : ListIs H base L mb nm.length bs w v ss) (hB0 : B0 ≤ mb) (hbase : base ≤ w.heap.size) (hnm : nm.length ≤ maxLen ∧ ∀ s ∈ nm, s.size ≤ maxLen) (hes : es.length ≤ 1048576)
    (key : ∀ W, Below B0 w W → Row W W.heap.size va (strVals nm) ∧ Row W W.heap.size ba (edVals es) ∧ HasNamesTable W) (hfit : ∀ x ∈ es, Fits x.t) (hlen : bs.length + es.length ≤ 16777216) :
    Calls Tryz.prog 64 #[.pointer (some ⟨L, 0, none⟩), .agg #[.slice va nm.length vc, .int .i64 np, .slice ba es.length bc], spC ss[i].p ss[i].h.a ss[i].h.vs.length ss[i].h.ca ss[i].h.b ss[i].h.zs.length ss[i].h.cb] w
      (MoreEnd H base L mb nm.length (addAfterS nm es ss[i].body bs) v ss w) := by
  have hkN : Kx nm.length ss[i].body := hl.kx _ (by rw [← hl.body]; exact List.mem_map_of_mem (List.getElem_mem hi))
  have hat : ∀ (W : World) (ss' : List Sp) (v' : Value) (bs' : List Sb), (∃ r, ss' = ss ++ r) → ListIs H base L mb nm.length bs' W v' ss' → HeapAt W ss[i].h.a ss[i].h.b ss[i].h.vs ss[i].h.zs := by
    rintro W ss' v' bs' ⟨r, rfl⟩ hL
    exact hL.ins.at_ (List.mem_map_of_mem (List.mem_append_left _ (List.getElem_mem hi)))
  obtain ⟨q, hq⟩ : ∃ q, ss[i].p = q := ⟨_, rfl⟩
  obtain ⟨N, hNN⟩ : ∃ N, ss[i].h = N := ⟨_, rfl⟩
  have hst : ss[i].body = (q, N.body) := by rw [← hq, ← hNN]; rfl
  rw [hst] at hkN ⊢
  rw [hNN] at hat ⊢
  rw [hq]
  have hNv : N.vs.length ≤ 4 := by have h1 : N.vs.length = nm.length := hkN.lv; have := hkN.n4; omega
  have hNz : N.zs.length ≤ 6 := hkN.lz
  have hv4 : N.vs.length ≤ maxLen := by unfold maxLen; omega
  have hz4 : N.zs.length ≤ maxLen := by unfold maxLen; omega
  have HAT := Lib.hid hat
  have HK := Lib.hid key
  have HLL := Lib.hid hl
  have HFIT := Lib.hid hfit
  have hvb : ∀ k, v.ownBlock = some k → base ≤ k ∧ k < w.heap.size := fun k hk => hl.own.lt k hk
  have HVB := Lib.hid hvb
  have hLb := hl.hL
  have hmL := hl.hmb
  clear hq hNN hst hat key hl hkN hfit hvb
  go_enter Tryz.func64, Tryz.ntmps64
  go_wp2_with fail
  obtain ⟨W0, hW0, hb0, bp0, bs0⟩ := two_boxL w [.slice va nm.length vc, .int .i64 np, .slice ba es.length bc] [.int .i64 q, .slice N.a N.vs.length N.ca, .slice N.b N.zs.length N.cb] 27 34
  simp only [List.toArray] at hW0
  rw [hW0]
  clear hW0
  refine (implEdgesFrom va ba nm.length vc bc es np q _ hes (HK.out _ (hb0.mono (by omega))).2.1).mono ?_
  rintro e w1 ⟨ag, cg, rfl, hcg, hg, hb1⟩
  rw [intVals_length] at *
  have hB1 := hb0.trans (hb1.mono hb0.size)
  have bp1 := bp0.below hb1
  have bs1 := bs0.below hb1
  have L1 := HLL.out.below hB1
  have hz1 := hB1.size
  have hsz1 := bs1.lt
  have hz0 := bs0.lt
  have hED : ∀ m ∈ posFrom q 0 (fromsOf es), hasEdge es q m = true := fun m hm => edges_has (st := (q, N.body)) hm
  have hpl : (posFrom q 0 (fromsOf es)).length ≤ es.length := Nat.le_trans (posFrom_length _ _ _) (by rw [fromsOf_length]; exact Nat.le_refl _)
  have hgb : ∀ k, (Value.slice ag (posFrom q 0 (fromsOf es)).length cg).ownBlock = some k → W0.heap.size ≤ k := fun k hk => (hg.lt k hk).1
  obtain ⟨ED, hEDD⟩ : ∃ ED, posFrom q 0 (fromsOf es) = ED := ⟨_, rfl⟩
  have hfin : addAfterS nm es (q, N.body) bs = ED.foldl (stepS nm es (q, N.body)) bs := by rw [← hEDD]; rfl
  rw [hEDD] at hED hpl hgb hg
  rw [hEDD]
  have HFIN := Lib.hid hfin
  have HED := Lib.hid hED
  have HG := Lib.hid hg
  have HGB := Lib.hid hgb
  have HL1 := Lib.hid L1
  have HB1 := Lib.hid hB1
  have BP1 := Lib.hid bp1
  have BS1 := Lib.hid bs1
  clear hED hg hgb L1 hB1 bp1 bs1 hEDD hfin hb0 hb1 bp0 bs0 HLL
  go_wp2
  go_loopw [15] (fun t wr => ∃ (j : Nat) (v' : Value) (ss' : List Sp), j ≤ ED.length ∧ t = .int .i64 (j : Int) ∧ ListIs H base L mb nm.length ((ED.take j).foldl (stepS nm es (q, N.body)) bs) wr v' ss' ∧ (∃ r, ss' = ss ++ r) ∧ Only (fun k => k = L ∨ k = mb ∨ v.ownBlock = some k) w1 wr ∧ (v'.ownBlock = v.ownBlock ∨ ∃ k, v'.ownBlock = some k ∧ w1.heap.size ≤ k)) (fun t _ => ED.length - (intOf t).toNat)
  case atStart => exact ⟨0, v, ss, Nat.zero_le _, rfl, HL1.out, ⟨[], by simp⟩, Only.refl, .inl rfl⟩
  case round =>
    obtain ⟨j, v', ss', hj, rfl, hL, hpre, hon, hvv⟩ := hrel
    have hnS : ∀ k, base ≤ w.heap.size → w.heap.size ≤ k → ¬ (k = L ∨ k = mb ∨ v.ownBlock = some k) := by
      rintro k _ hk (h | h | h)
      · omega
      · omega
      · have := (HVB.out k h).2
        omega
    by_cases hlt : j < ED.length
    · have HJ1 := Lib.hid (show j + 1 ≤ ED.length from hlt)
      have bpr := BP1.out.onlyA hon (hnS _ hbase (by omega))
      have bsr := BS1.out.onlyA hon (hnS _ hbase (by omega))
      have hrow : Row wr wr.heap.size ag (intVals ED) := Row.owned (own_onlyA HG.out hon fun k hk => hnS k hbase (by have := HGB.out k hk; omega))
      have hBr : Below B0 w wr := hon.below (HB1.out.mono (by omega)) (by omega) fun k hk => by
        rcases hk with h | h | h
        · omega
        · omega
        · have := (HVB.out k h).1
          omega
      obtain ⟨eb, eo, rfl, _, hec⟩ := hrow j (.int .i64 ED[j]) (intVals_at ED j hlt)
      have hnext := fold_next (nm := nm) (es := es) (q, N.body) ED bs j hlt
      have hin := HED.out ED[j] (List.getElem_mem hlt)
      generalize ED[j] = ed at *
      obtain ⟨⟨hge, hle⟩, hfe⟩ : (0 ≤ ed ∧ ed ≤ (es.length : Int) - 1) ∧ (es.getD ed.toNat ⟨0, 0, 0, ⟨#[]⟩, ⟨#[]⟩⟩).f = q := by simpa [hasEdge] using hin
      obtain ⟨m, rfl⟩ : ∃ m : Nat, ed = (m : Int) := ⟨ed.toNat, by omega⟩
      have hml : m < es.length := by omega
      have hxe : edgeAt es (m : Int) = es[m] := by simp [edgeAt, hml]
      have hxf := HFIT.out es[m] (List.getElem_mem hml)
      obtain ⟨bb, bo, rfl, hbbl, _⟩ := (HK.out _ hBr).2.1.edge m hml
      have hEA : ∀ W, Below wr.heap.size wr W → EdAt W bb (bo + m * 5) es[m] := fun W hb => by
        obtain ⟨bb', bo', e, _, hE⟩ := (HK.out _ (hBr.trans (hb.mono (Nat.le_trans (by omega) hon.size)))).2.1.edge m hml
        injection e with e
        injection e with e1 e2 _
        subst e1 e2
        exact hE
      have hns : nextS nm es (q, N.body) (m : Int) = ((execS nm es[m].k es[m].a es[m].b N.vs N.zs).1, (es[m].t, (execS nm es[m].k es[m].a es[m].b N.vs N.zs).2)) := by
        rw [nextS, hxe]
        rfl
      generalize es[m] = x at *
      obtain ⟨c9, us, ys, hex⟩ : ∃ c us ys, execS nm x.k x.a x.b N.vs N.zs = (c, us, ys) := ⟨_, _, _, rfl⟩
      rw [hex] at hns
      have hS : ∀ W, Below wr.heap.size wr W → ((W.cell? ⟨w.heap.size, 0, none⟩ = some (.slice va nm.length vc) ∧ W.cell? ⟨w.heap.size, 1, none⟩ = some (.int .i64 np) ∧ W.cell? ⟨w.heap.size, 2, none⟩ = some (.slice (some ⟨bb, bo, none⟩) es.length bc)) ∧ (W.cell? ⟨w.heap.size + 1, 0, none⟩ = some (.int .i64 q) ∧ W.cell? ⟨w.heap.size + 1, 1, none⟩ = some (.slice N.a N.vs.length N.ca) ∧ W.cell? ⟨w.heap.size + 1, 2, none⟩ = some (.slice N.b N.zs.length N.cb))) ∧ (W.cell? ⟨bb, bo + m * 5, none⟩ = some (.int .i64 x.f) ∧ W.cell? ⟨bb, bo + m * 5 + 1, none⟩ = some (.int .i64 x.t) ∧ W.cell? ⟨bb, bo + m * 5 + 2, none⟩ = some (.int .i64 x.k) ∧ W.cell? ⟨bb, bo + m * 5 + 3, none⟩ = some (.string x.a) ∧ W.cell? ⟨bb, bo + m * 5 + 4, none⟩ = some (.string x.b)) := fun W hb =>
        have hp := bpr.below hb
        have hq := bsr.below hb
        have hE := hEA W hb
        ⟨⟨⟨hp.c 0 _ rfl, hp.c 1 _ rfl, hp.c 2 _ rfl⟩, hq.c 0 _ rfl, hq.c 1 _ rfl, hq.c 2 _ rfl⟩, hE.f, hE.t, hE.k, hE.a, hE.b⟩
      have hK5 : ∀ W, Below wr.heap.size wr W → Row W W.heap.size va (strVals nm) ∧ HeapAt W N.a N.b N.vs N.zs ∧ HasNamesTable W := fun W hb =>
        have hk := HK.out _ (hBr.trans (hb.mono (Nat.le_trans (by omega) hon.size)))
        ⟨hk.1, (HAT.out wr _ _ _ hpre hL).below hb (Nat.le_refl _), hk.2.2⟩
      have HS5 := Lib.hid hS
      have HK5 := Lib.hid hK5
      have HEX := Lib.hid hex
      have HNS := Lib.hid hns
      have HNX := Lib.hid hnext
      have HLR := Lib.hid hL
      have HON := Lib.hid hon
      have hD : Below wr.heap.size wr wr.drew := Below.drew (Below.refl _ _)
      have hz1r := hon.size
      clear hS hK5 hex hns hnext hEA hxe hfe hin hL hon bpr bsr hrow hBr
      go_wp2
      go_region_held3 (fun W => ((W.cell? ⟨w.heap.size, 0, none⟩ = some (.slice va nm.length vc) ∧ W.cell? ⟨w.heap.size, 1, none⟩ = some (.int .i64 np) ∧ W.cell? ⟨w.heap.size, 2, none⟩ = some (.slice (some ⟨bb, bo, none⟩) es.length bc)) ∧ (W.cell? ⟨w.heap.size + 1, 0, none⟩ = some (.int .i64 q) ∧ W.cell? ⟨w.heap.size + 1, 1, none⟩ = some (.slice N.a N.vs.length N.ca) ∧ W.cell? ⟨w.heap.size + 1, 2, none⟩ = some (.slice N.b N.zs.length N.cb))) ∧ (W.cell? ⟨bb, bo + m * 5, none⟩ = some (.int .i64 x.f) ∧ W.cell? ⟨bb, bo + m * 5 + 1, none⟩ = some (.int .i64 x.t) ∧ W.cell? ⟨bb, bo + m * 5 + 2, none⟩ = some (.int .i64 x.k) ∧ W.cell? ⟨bb, bo + m * 5 + 3, none⟩ = some (.string x.a) ∧ W.cell? ⟨bb, bo + m * 5 + 4, none⟩ = some (.string x.b)))
        (first | exact HS5.out _ (by repeat (first | with_reducible exact Below.refl _ _ | with_reducible assumption | with_reducible refine Below.drew ?_ | with_reducible refine Below.setCell ?_ (by first | exact Nat.le_refl _ | exact z7) _ | with_reducible refine Below.alloc ?_ (by first | exact Nat.le_refl _ | exact z7) _)))
        (first
          | (go_at_call 55; (with_reducible refine (implPerform va vc nm np (some ⟨bb, bo, none⟩) bc es.length q N.a N.b N.ca N.cb N.vs N.zs x _ hnm.1 hnm.2 (HK5.out _ (by repeat (first | with_reducible exact Below.refl _ _ | with_reducible assumption | with_reducible refine Below.drew ?_ | with_reducible refine Below.alloc ?_ (Nat.le_refl _) _))).1 hv4 hz4 (HK5.out _ (by repeat (first | with_reducible exact Below.refl _ _ | with_reducible assumption | with_reducible refine Below.drew ?_ | with_reducible refine Below.alloc ?_ (Nat.le_refl _) _))).2.1 (HK5.out _ (by repeat (first | with_reducible exact Below.refl _ _ | with_reducible assumption | with_reducible refine Below.drew ?_ | with_reducible refine Below.alloc ?_ (Nat.le_refl _) _))).2.2).mono ?_); rw [HEX.out]; rintro e w7 ⟨t7, xa, xca, xb, xcb, ht7, rfl, hin7, hb7⟩; have H7 : Below wr.heap.size wr w7 := Below.trans (by repeat (first | with_reducible exact Below.refl _ _ | with_reducible assumption | with_reducible refine Below.drew ?_ | with_reducible refine Below.alloc ?_ (Nat.le_refl _) _)) (hb7.mono (by first | exact Nat.le_refl _ | (simp; done))); have z7 := H7.size; (try (have bA7 : BoxL w7 wr.heap.size [.int .i64 0, .slice none 0 0, .slice none 0 0] := BoxL.below (BoxL.new wr.drew [.int .i64 0, .slice none 0 0, .slice none 0 0] 34) hb7; have e70 := bA7.c 0 _ rfl; have e71 := bA7.c 1 _ rfl; have e72 := bA7.c 2 _ rfl; have f70 := bA7.f; have l70 := bA7.lt)); skip)
          | fail)
      all_goals
        first
          | (obtain ⟨WA, hWA, bA, hNA, hBA⟩ := after_alloc (w5 := wr) (t7 := t7) 34 hin7 (Nat.le_refl _) H7
             rw [hWA])
          | (obtain ⟨WA, hWA, bA, hNA, hBA⟩ := after_store (w5 := wr) (t7 := t7) bA7 (Nat.le_refl _) (by simp) hin7 H7
             rw [hWA])
        clear hWA hin7 hb7 H7 hD
        try clear e70 e71 e72 f70 l70 bA7
        have hzA := hBA.size
        have HBA := Lib.hid hBA
        have HNA := Lib.hid hNA
        have HLA := Lib.hid (HLR.out.below hBA)
        clear hBA hNA
        by_cases hc9 : c9 = 0
        case' neg =>
          have hcb : (c9 == 0) = false := by simpa using hc9
          have HE := Lib.hid (show ListIs H base L mb nm.length ((ED.take (j + 1)).foldl (stepS nm es (q, N.body)) bs) WA v' ss' by
            rw [HNX.out, stepS, if_neg (by rw [HNS.out]; exact hc9)]
            exact HLA.out)
          clear hc9 bA
          go_wp2
          go_roundw
          case rel => exact ⟨j + 1, v', ss', HJ1.out, by go_num, HE.out, hpre, HON.out.trans (Only.of_below HBA.out), hvv⟩
          case measure => have := HJ1.out; simp [intOf]; omega
        case' pos =>
          subst hc9
          obtain rfl := ht7 rfl
          have hkx : Kx nm.length (x.t, (us, ys)) := kx_heap (exec_heap HEX.out) hxf
          have a0 := bA.c 0 _ rfl
          have a1 := bA.c 1 _ rfl
          have a2 := bA.c 2 _ rfl
          have hfl := fold_len (nm := nm) (es := es) (q, N.body) (ED.take j) bs
          rw [List.length_take] at hfl
          clear bA
          go_wp2_with fail
          refine (implAdd base L mb nm.length _ v' ss' x.t ⟨xa, xca, xb, xcb, us, ys⟩ _ HLA.out hkx (HNA.out.mono (by omega) (Nat.le_refl _) (Nat.le_refl _)) (fun y hy k hk hk2 => by have h1 := (HLR.out.ins.has_lt (List.mem_map_of_mem hy) hk).2; have h2 := (HNA.out.has_lt hk2).1; omega) (fun k hk hk2 => by have h1 := (HLR.out.own.lt k hk).2; have h2 := (HNA.out.has_lt hk2).1; omega) (by omega) (by omega)).mono ?_
          rintro e w9 ⟨rfl, v9, ss9, hL9, hpre9, hon9, hvv9⟩
          have HE := Lib.hid (show ListIs H base L mb nm.length ((ED.take (j + 1)).foldl (stepS nm es (q, N.body)) bs) w9 v9 ss9 by
            rw [HNX.out, stepS, if_pos (by rw [HNS.out]), HNS.out]
            exact hL9)
          have HON9 := Lib.hid hon9
          clear hL9 hon9 a0 a1 a2
          go_wp2
          go_roundw
          case rel =>
            refine ⟨j + 1, v9, ss9, HJ1.out, by go_num, HE.out, ?_, ?_, ?_⟩
            · obtain ⟨r1, rfl⟩ := hpre
              obtain ⟨r2, rfl⟩ := hpre9
              exact ⟨r1 ++ r2, by rw [List.append_assoc]⟩
            · have ht := HON.out.trans (Only.of_below HBA.out)
              have h9 := HON9.out
              refine ⟨h9.os.trans ht.os, h9.tape.trans ht.tape, h9.output.trans ht.output, Nat.le_trans ht.size h9.size, fun k hk hn => (h9.block k (Nat.lt_of_lt_of_le hk ht.size) ?_).trans (ht.block k hk hn)⟩
              rintro (h | h | h)
              · exact hn (.inl h)
              · exact hn (.inr (.inl h))
              · rcases hvv with e | ⟨k', e, hk'⟩
                · exact hn (.inr (.inr (e ▸ h)))
                · rw [e] at h
                  have := Option.some.inj h
                  omega
            · rcases hvv9 with e | ⟨k', e, hk'⟩
              · rw [e]
                exact hvv
              · exact .inr ⟨k', e, by omega⟩
          case measure => have := HJ1.out; simp [intOf]; omega
    · obtain rfl : j = ED.length := by omega
      rw [List.take_length] at hL
      have HE := Lib.hid (show MoreEnd H base L mb nm.length (addAfterS nm es (q, N.body) bs) v ss w (.returned (.tuple #[])) wr from ⟨rfl, v', ss', by rw [HFIN.out]; exact hL, hpre, (Only.of_below HB1.out).trans hon, hvv.imp id fun ⟨k, e, hk⟩ => ⟨k, e, by omega⟩⟩)
      clear hL hon hvv hpre
      go_wp2
      exact bodyPost_ret (v := .tuple #[]) (by simp [results, Tryz.results64, go_sem]) rfl HE.out
end Go.Proofs.YtpmmjaceehlpiaaGreatDoor
