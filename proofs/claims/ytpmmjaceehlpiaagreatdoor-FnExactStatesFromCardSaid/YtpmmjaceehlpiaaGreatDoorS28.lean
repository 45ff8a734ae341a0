/-
  The model's states that can be reached.
-/
import Derived.Test.YtpmmjaceehlpiaaGreatDoorS25
import Derived.Test.YtpmmjaceehlpiaaGreatDoorS27
import Derived.Test.YtpmmjaceehlpiaaGreatDoorS02
namespace Go.Proofs.YtpmmjaceehlpiaaGreatDoor
open Go Go.RowKit Go.ChangeShapes Go.WideShapes Go.ChangeAt

theorem BoxL.belowB {W W' : World} {B g : Nat} {xs : List Value} (h : BoxL W g xs) (hb : Below B W W') (hg : g < B) : BoxL W' g xs :=
  ⟨fun i x hx => (hb.cell (p := ⟨g, i, none⟩) hg).trans (h.c i x hx), fun o => (hb.frozen (p := ⟨g, o, none⟩) hg).trans (h.f o), Nat.lt_of_lt_of_le h.lt hb.size⟩
theorem heapy_put {n : Int} {l : List Sb} {x : Sb} (h : Heapy n l) (hx : heapB n x.2.1 x.2.2 = true) : Heapy n (putS l x) := fun y hy => by
  rcases putS_mem hy with hy | rfl
  · exact h y hy
  · exact hx
theorem heapy_step {nm : List ByteArray} {es : List Ed} {l : List Sb} (st : Sb) (e : Int) (h : Heapy (nm.length : Int) l) : Heapy (nm.length : Int) (stepS nm es st l e) := by
  unfold stepS
  split
  · next h0 =>
    refine heapy_put h ?_
    obtain ⟨c, us, ys, hex⟩ : ∃ c us ys, execS nm (edgeAt es e).k (edgeAt es e).a (edgeAt es e).b st.2.1 st.2.2 = (c, us, ys) := ⟨_, _, _, rfl⟩
    unfold nextS at h0 ⊢
    rw [hex] at h0 ⊢
    have hc : c = 0 := h0
    subst hc
    exact exec_heap hex
  · exact h
theorem heapy_fold {nm : List ByteArray} {es : List Ed} (st : Sb) : ∀ (ls : List Int) (l : List Sb), Heapy (nm.length : Int) l → Heapy (nm.length : Int) (ls.foldl (stepS nm es st) l)
  | [], l, h => h
  | e :: ls, l, h => heapy_fold st ls _ (heapy_step st e h)
theorem heapy_lens {n : Int} {l : List Sb} (h : Heapy n l) {x : Sb} (hx : x ∈ l) : x.2.1.length ≤ 4 ∧ x.2.2.length ≤ 6 := by
  have := heapB_parts (h x hx)
  exact ⟨this.1.2.1, this.2.1⟩
section
variable {base kb : Nat} {bs : List Sb} {v : Value} {wr : World} {ss : List Sp}
theorem OutS.len (h : OutS base bs v wr ss kb) : ss.length = bs.length := by rw [← h.body, List.length_map]
theorem OutS.form (h : OutS base bs v wr ss kb) : ∃ c, v = .slice (some ⟨kb, 0, none⟩) ss.length c := own_some h.own h.blk
/-- The k-th state of the list, where it lies. -/
theorem OutS.item {c : Nat} (h : OutS base bs (.slice (some ⟨kb, 0, none⟩) ss.length c) wr ss kb) {k : Nat} (hk : k < bs.length) : ∃ y : Sp, y.body = bs.getD k noSb ∧ y ∈ ss ∧
    (wr.cell? ⟨kb, k * 3, none⟩ = some (.int .i64 y.p) ∧ wr.cell? ⟨kb, k * 3 + 1, none⟩ = some (.slice y.h.a y.h.vs.length y.h.ca) ∧ wr.cell? ⟨kb, k * 3 + 2, none⟩ = some (.slice y.h.b y.h.zs.length y.h.cb)) ∧ y.h.At wr ∧ (y.h.a = none → y.h.ca = 0) ∧ (y.h.b = none → y.h.cb = 0) := by
  have hks : k < ss.length := by rw [h.len]; exact hk
  obtain ⟨b, o, e, _, c0, c1, c2, hat⟩ := h.at_.item k hks
  injection e with e
  injection e with e1 e2 _
  subst e1 e2
  rw [Nat.zero_add] at c0 c1 c2
  have hm : ss[k] ∈ ss := List.getElem_mem hks
  have hin := h.ins.each _ (List.mem_map_of_mem (f := Sp.h) hm)
  refine ⟨ss[k], ?_, hm, ⟨c0, c1, c2⟩, hat, fun e => (own_nils hin.v.2.1 e).2, fun e => (own_nils hin.z.2.1 e).2⟩
  have h1 : (ss.map Sp.body)[k]? = bs[k]? := by rw [h.body]
  rw [List.getD_eq_getElem?_getD, ← h1]
  simp [hks]
theorem OutS.only {S : Nat → Prop} {wr' : World} (h : OutS base bs v wr ss kb) (t : Only S wr wr') (hd : ∀ k, base ≤ k → k < wr.heap.size → ¬ S k) : OutS base bs v wr' ss kb :=
  ⟨h.body, own_onlyA h.own t fun k hk => hd k (h.own.lt k hk).1 (h.own.lt k hk).2, h.ins.same t.size fun x hx k hk => t.block k (h.ins.has_lt hx hk).2 (hd k (h.ins.has_lt hx hk).1 (h.ins.has_lt hx hk).2), h.off, h.blk⟩
end
/-- The model's answer. -/
def StatesGot (r : List Sb × Bool) (w : World) (e : Ending) (w' : World) : Prop :=
  ∃ a c ss, e = .returned (.tuple #[.slice a ss.length c, .bool r.2]) ∧ ss.map Sp.body = r.1 ∧ StatesAt w' a ss ∧ Below w.heap.size w w'
theorem got_none {w w' : World} (g : Nat) (h : Below w.heap.size w w') : StatesGot ([], false) w (.returned (.tuple #[.slice (some ⟨g, 0, none⟩) 0 0, .bool false])) w' :=
  ⟨_, 0, [], rfl, rfl, ⟨fun k u hu => (by simp [fl] at hu), fun x hx => (by simp at hx)⟩, h⟩
theorem after2_alloc {lo : Nat} {w5 w7 : World} {xa xb : Option Addr} {xca xcb : Nat} {us ys : List Int} (t : TypeId) (hin : HeapIn lo w7.heap.size w7 xa xca xb xcb (intVals us) (intVals ys)) (hlo : w5.heap.size ≤ lo) (hB : Below w5.heap.size w5 w7) :
    ∃ WA, w7.alloc (.cells #[.slice xa us.length xca, .slice xb ys.length xcb] t) = WA ∧ BoxL WA w7.heap.size [.slice xa us.length xca, .slice xb ys.length xcb] ∧ Hp.In w5.heap.size WA.heap.size WA ⟨xa, xca, xb, xcb, us, ys⟩ ∧ Below w5.heap.size w5 WA :=
  have ha := (Below.refl w7.heap.size w7).alloc (Nat.le_refl _) (.cells #[.slice xa us.length xca, .slice xb ys.length xcb] t)
  ⟨_, rfl, BoxL.new w7 _ _, (hin.below ha).mono hlo ha.size (Nat.le_refl _), hB.trans (ha.mono hB.size)⟩
theorem after2_store {lo A : Nat} {w5 w7 : World} {xa xb : Option Addr} {xca xcb : Nat} {us ys : List Int} {x0 y0 : Value} (b : BoxL w7 A [x0, y0]) (hA : w5.heap.size ≤ A) (hAl : A < lo) (hin : HeapIn lo w7.heap.size w7 xa xca xb xcb (intVals us) (intVals ys)) (hB : Below w5.heap.size w5 w7) :
    ∃ WA, (w7.setCell ⟨A, 0, none⟩ (.slice xa us.length xca)).setCell ⟨A, 1, none⟩ (.slice xb ys.length xcb) = WA ∧ BoxL WA A [.slice xa us.length xca, .slice xb ys.length xcb] ∧ Hp.In w5.heap.size WA.heap.size WA ⟨xa, xca, xb, xcb, us, ys⟩ ∧ Below w5.heap.size w5 WA := by
  have o : ∀ (W : World) (i : Nat) (u : Value), Only (fun k => k = A) W (W.setCell ⟨A, i, none⟩ u) := fun _ _ _ => Only.set (S := fun k => k = A) rfl
  have oV := (o w7 0 (.slice xa us.length xca)).trans (o _ 1 (.slice xb ys.length xcb))
  have hN : Hp.In lo w7.heap.size w7 ⟨xa, xca, xb, xcb, us, ys⟩ := hin
  exact ⟨_, rfl, (b.set 0 _).set 1 _, (hN.same oV.size fun k hk => oV.block k (hN.has_lt hk).2 (by have := (hN.has_lt hk).1; omega)).mono (by omega) oV.size (Nat.le_refl _), oV.below hB hB.size fun k hk => by omega⟩
set_option maxRecDepth 100000 in
set_option maxHeartbeats 3200000 in
theorem specStatesFrom (va : Option Addr) (vc : Nat) (nm : List ByteArray) (np : Int) (ba : Option Addr) (bc : Nat) (es : List Ed) (ha : Option Addr) (hc : Nat) (hs : List Hp) (w : World)
    (hnm : nm.length ≤ maxLen ∧ (∀ s ∈ nm, s.size ≤ maxLen) ∧ Row w w.heap.size va (strVals nm)) (hnp : -9223372036854775808 ≤ np ∧ np ≤ 9223372036854775807) (hes : es.length ≤ 1048576 ∧ Row w w.heap.size ba (edVals es)) (hhl : hs.length ≤ 1048576) (hh : HeapsAt w ha hs) (hlh : ∀ x ∈ hs, x.vs.length ≤ maxLen ∧ x.zs.length ≤ maxLen) (hnil : ∀ x ∈ hs, (x.a = none → x.ca = 0) ∧ (x.b = none → x.cb = 0)) :
    Calls Tryz.prog 13 #[.agg #[.slice va nm.length vc, .int .i64 np, .slice ba es.length bc], .slice ha hs.length hc] w (StatesGot (statesS nm np es (hs.map Hp.body)) w) := by
  obtain ⟨r0, hr0⟩ : ∃ r, statesS nm np es (hs.map Hp.body) = r := ⟨_, rfl⟩
  rw [hr0]
  obtain ⟨pb, hpb⟩ : ∃ pb, progB nm np es = pb := ⟨_, rfl⟩
  have key : ∀ W, Below w.heap.size w W → (Row W W.heap.size va (strVals nm) ∧ Row W W.heap.size ba (edVals es)) ∧ HeapsAt W ha hs := fun W hb => ⟨⟨(hnm.2.2.below hb).grow hb.size, (hes.2.below hb).grow hb.size⟩, hh.below hb⟩
  have HPB := Lib.hid hpb
  have HR := Lib.hid hr0
  have KEY := Lib.hid key
  have HNM := Lib.hid (And.intro hnm.1 hnm.2.1)
  have HLH := Lib.hid hlh
  have HNIL := Lib.hid hnil
  have hes1 := hes.1
  clear hpb hr0 key hnm hes hh hlh hnil
  have hb0 := ((Below.refl w.heap.size w).alloc (Nat.le_refl _) (.cells #[.slice va nm.length vc, .int .i64 np, .slice ba es.length bc] 27)).alloc (by simp) (.cells #[] 34)
  have hsz0 : ((w.alloc (.cells #[.slice va nm.length vc, .int .i64 np, .slice ba es.length bc] 27)).alloc (.cells #[] 34)).heap.size = w.heap.size + 2 := by simp
  have hbx : BoxL ((w.alloc (.cells #[.slice va nm.length vc, .int .i64 np, .slice ba es.length bc] 27)).alloc (.cells #[] 34)) w.heap.size [.slice va nm.length vc, .int .i64 np, .slice ba es.length bc] := (BoxL.new w [.slice va nm.length vc, .int .i64 np, .slice ba es.length bc] 27).below ((Below.refl _ _).alloc (Nat.le_refl _) _)
  have hO0 : OutS (w.heap.size + 1) [] (.slice (some ⟨w.heap.size + 1, 0, none⟩) 0 0) ((w.alloc (.cells #[.slice va nm.length vc, .int .i64 np, .slice ba es.length bc] 27)).alloc (.cells #[] 34)) [] (w.heap.size + 1) := by
    have h1 := World.ownsRow_made (e := 34) (size := 3) (base := w.heap.size + 1) (w.alloc (.cells #[.slice va nm.length vc, .int .i64 np, .slice ba es.length bc] 27)) #[] 0 (by simp) (Nat.zero_le _) rfl
    rw [show (w.alloc (.cells #[.slice va nm.length vc, .int .i64 np, .slice ba es.length bc] 27)).heap.size = w.heap.size + 1 by simp] at h1
    exact ⟨rfl, h1, HeapsIn.nil, fun ⟨x, hx, _⟩ => (by simp at hx), rfl⟩
  go_enter Tryz.func13, Tryz.ntmps13
  go_wp2_with fail
  obtain ⟨W0, hW0⟩ : ∃ W, (w.alloc (.cells #[.slice va nm.length vc, .int .i64 np, .slice ba es.length bc] 27)).alloc (.cells #[] 34) = W := ⟨_, rfl⟩
  rw [hW0] at hb0 hbx hO0 hsz0 ⊢
  clear hW0
  refine (specIsProgram va ba vc bc nm np es _ ⟨HNM.out.1, HNM.out.2, (KEY.out _ hb0).1.1⟩ hnp ⟨by unfold maxLen; omega, (KEY.out _ hb0).1.2⟩).mono ?_
  rw [HPB.out]
  rintro e w1 ⟨rfl, hb1⟩
  have hB1 := hb0.trans (hb1.mono hb0.size)
  have bx1 := hbx.below hb1
  have O1 := hO0.below hb1
  have hz1 := hb1.size
  clear hb0 hbx hb1 hO0
  cases pb
  case' false =>
    have hrr : r0 = ([], false) := by rw [← HR.out, statesS, if_neg (by rw [HPB.out]; simp)]
    have HE := Lib.hid (show StatesGot r0 w (.returned (.tuple #[.slice (some ⟨w.heap.size + 1, 0, none⟩) 0 0, .bool false])) w1 by rw [hrr]; exact got_none _ hB1)
    clear hrr hB1 bx1 O1
    go_wp2
    exact bodyPost_ret (v := .tuple #[.slice (some ⟨w.heap.size + 1, 0, none⟩) 0 0, .bool false]) (by simp [results, Tryz.results13, go_sem]) rfl HE.out
  case' true =>
    obtain ⟨hel, _⟩ := prog_fits HPB.out
    have HB1 := Lib.hid hB1
    have BX1 := Lib.hid bx1
    have HO1 := Lib.hid O1
    have hall0 : ((hs.map Hp.body).take 0).all (fun h => heapB (nm.length : Int) h.1 h.2) = true := by simp
    have hheapy0 : Heapy (nm.length : Int) (startS ((hs.map Hp.body).take 0)) := fun x hx => by simp [startS] at hx
    clear hB1 bx1 O1
    go_wp2
    go_loopw [6, 7] (fun v t wr => ∃ (j kb : Nat) (ss : List Sp), j ≤ hs.length ∧ t = .int .i64 (j : Int) ∧ OutS (w.heap.size + 1) (startS ((hs.map Hp.body).take j)) v wr ss kb ∧ ((hs.map Hp.body).take j).all (fun h => heapB (nm.length : Int) h.1 h.2) = true ∧ Heapy (nm.length : Int) (startS ((hs.map Hp.body).take j)) ∧ Below (w.heap.size + 1) w1 wr) (fun _ t _ => hs.length - (intOf t).toNat)
    case atStart => exact ⟨0, _, [], Nat.zero_le _, rfl, HO1.out, hall0, hheapy0, Below.refl _ _⟩
    case round =>
      obtain ⟨j, kb, ss, hj, rfl, hO, hall, hhp, hbw⟩ := hrel
      obtain ⟨vc', rfl⟩ := hO.form
      have hBw := HB1.out.trans (hbw.mono (Nat.le_succ _))
      have bxw := BX1.out.belowB hbw (Nat.lt_succ_self _)
      by_cases hlt : j < hs.length
      · have HJ1 := Lib.hid (show j + 1 ≤ hs.length from hlt)
        have hitem := fun W (hb : Below wr.heap.size wr W) => (KEY.out W (hBw.trans (hb.mono hBw.size))).2.item j hlt
        obtain ⟨hb, ho, rfl, hbl, h0, h1, hat⟩ := hitem _ (Below.refl _ _)
        have hlx := HLH.out hs[j] (List.getElem_mem hlt)
        have hnx0 := HNIL.out hs[j] (List.getElem_mem hlt)
        have hlm : j < (hs.map Hp.body).length := by rw [List.length_map]; exact hlt
        have hnx := startS_next (hs.map Hp.body) j hlm
        have hax : ((hs.map Hp.body).take (j + 1)).all (fun h => heapB (nm.length : Int) h.1 h.2) = (((hs.map Hp.body).take j).all (fun h => heapB (nm.length : Int) h.1 h.2) && heapB (nm.length : Int) hs[j].vs hs[j].zs) := by
          rw [take_next _ j hlm, List.all_append, List.all_cons, List.all_nil, Bool.and_true, List.getElem_map]
          rfl
        have hbx : (hs.map Hp.body)[j] = hs[j].body := List.getElem_map _
        rw [hbx] at hnx
        have hmem : hs[j].body ∈ hs.map Hp.body := List.mem_map_of_mem (List.getElem_mem hlt)
        have hS : ∀ W, Below wr.heap.size wr W → W.cell? ⟨w.heap.size, 0, none⟩ = some (.slice va nm.length vc) ∧ W.cell? ⟨hb, ho + j * 2, none⟩ = some (.slice hs[j].a hs[j].vs.length hs[j].ca) ∧ W.cell? ⟨hb, ho + j * 2 + 1, none⟩ = some (.slice hs[j].b hs[j].zs.length hs[j].cb) := fun W hw =>
          ⟨(bxw.below hw).c 0 _ rfl, (hw.cell (p := ⟨hb, ho + j * 2, none⟩) hbl).trans h0, (hw.cell (p := ⟨hb, ho + j * 2 + 1, none⟩) hbl).trans h1⟩
        generalize hs[j] = x at *
        have hat' : HeapAt wr x.a x.b x.vs x.zs := hat
        have HAT := Lib.hid hat'
        have HS := Lib.hid hS
        have HNX := Lib.hid hnx
        have HAX := Lib.hid hax
        have HALL := Lib.hid hall
        have HHP := Lib.hid hhp
        have HMEM := Lib.hid hmem
        have HO := Lib.hid hO
        have HBW := Lib.hid hbw
        have HBB := Lib.hid hBw
        have hzw := hbw.size
        have hsl := startS_len ((hs.map Hp.body).take j)
        rw [List.length_take, List.length_map] at hsl
        have hD : Below wr.heap.size wr wr.drew := Below.drew (Below.refl _ _)
        clear hat hat' hnx hax hall hmem hO hbw hBw hbx hlm bxw hS hitem h0 h1 hhp
        go_wp2
        go_region_held3 (fun W => W.cell? ⟨w.heap.size, 0, none⟩ = some (.slice va nm.length vc) ∧ W.cell? ⟨hb, ho + j * 2, none⟩ = some (.slice x.a x.vs.length x.ca) ∧ W.cell? ⟨hb, ho + j * 2 + 1, none⟩ = some (.slice x.b x.zs.length x.cb))
          (first | exact HS.out _ hD | exact HS.out _ (Below.drew hD) | exact HS.out _ H6)
          (first
            | (go_at_call 21; (with_reducible refine (specIsHeap (nm.length : Int) x.a x.b x.ca x.cb x.vs x.zs _ hlx.1 hlx.2 (HAT.out.below hD (Nat.le_refl _))).mono ?_); rintro e w6 ⟨rfl, hb6⟩; have H6 := hD.trans (hb6.mono hD.size))
            | fail)
        clear hb6
        have hz6 := H6.size
        have HB06 := Lib.hid H6
        clear H6 hD
        cases hp : heapB (nm.length : Int) x.vs x.zs
        case' false =>
          have hrr : r0 = ([], false) := by
            rw [← HR.out, statesS, if_neg]
            rintro ⟨_, h2⟩
            have h3 := List.all_eq_true.1 h2 x.body HMEM.out
            simp only [Hp.body] at h3
            rw [hp] at h3
            cases h3
          have hb9 := HBB.out.trans (HB06.out.mono HBB.out.size)
          have HE := Lib.hid (show StatesGot r0 w (.returned (.tuple #[.slice (some ⟨w6.heap.size, 0, none⟩) 0 0, .bool false])) (w6.alloc (.cells #[] 34)) by rw [hrr]; exact got_none _ (hb9.trans (Below.mono ((Below.refl _ _).alloc (Nat.le_refl _) _) hb9.size)))
          clear hrr hp hb9
          go_wp2
          exact bodyPost_ret (v := .tuple #[.slice (some ⟨w6.heap.size, 0, none⟩) 0 0, .bool false]) (by simp [results, Tryz.results13, go_sem]) rfl HE.out
        case' true =>
          obtain ⟨⟨_, hx4, _⟩, hx6, _⟩ := heapB_parts hp
          obtain ⟨_, s0, s1⟩ := HS.out _ HB06.out
          have hsl2 : ss.length ≤ 16777216 := by have := HO.out.len; omega
          go_wp2_with fail
          refine (specPut (w.heap.size + 1) _ _ ss kb 0 x.a x.b x.ca x.cb x.vs x.zs _ (HO.out.below HB06.out) (by omega) hsl2 (fun y hy => by have := heapy_lens HHP.out hy; unfold maxLen; omega) (HAT.out.below HB06.out (Nat.le_refl _)) hnx0.1 hnx0.2 (by omega) (by omega)).mono ?_
          rintro e w9 ⟨v9, ss9, kb9, rfl, hO9, _, hon9⟩
          have hkb := (HO.out.own.lt kb rfl).1
          have HB9 := Lib.hid (hon9.below (HBW.out.trans (HB06.out.mono (by omega))) (by omega) fun k hk => by omega)
          have HA9 := Lib.hid (show ((hs.map Hp.body).take (j + 1)).all (fun h => heapB (nm.length : Int) h.1 h.2) = true by rw [HAX.out, HALL.out, hp]; rfl)
          have HH9 := Lib.hid (heapy_put HHP.out (x := (0, (x.vs, x.zs))) hp)
          have HO9 := Lib.hid hO9
          clear hO9 hon9 hp s0 s1
          go_wp2
          go_roundw
          case rel => exact ⟨j + 1, kb9, ss9, HJ1.out, by go_num, by rw [HNX.out]; exact HO9.out, HA9.out, by rw [HNX.out]; exact HH9.out, HB9.out⟩
          case measure => have := HJ1.out; simp [intOf]; omega
      · obtain rfl : j = hs.length := by omega
        have htk : (hs.map Hp.body).take hs.length = hs.map Hp.body := List.take_of_length_le (by simp)
        rw [htk] at hO hall hhp
        have hfin : r0 = if (walkS nm es 201 0 (startS (hs.map Hp.body))).length ≤ 200 then (walkS nm es 201 0 (startS (hs.map Hp.body)), true) else ([], false) := by
          rw [← HR.out, statesS, if_pos ⟨HPB.out, hall⟩]
        have hsl := startS_len (hs.map Hp.body)
        rw [List.length_map] at hsl
        obtain ⟨fin, hwf⟩ : ∃ fin, walkS nm es 201 0 (startS (hs.map Hp.body)) = fin := ⟨_, rfl⟩
        rw [hwf] at hfin
        have hw0 : walkS nm es (201 - 0) 0 (startS (hs.map Hp.body)) = fin := hwf
        have HFIN := Lib.hid hfin
        have HW0 := Lib.hid hw0
        have HO := Lib.hid hO
        have HBW := Lib.hid hbw
        have HHP := Lib.hid hhp
        clear hfin hwf hw0 hO hbw htk hBw bxw hall hhp
        go_wp2
        go_loopw [6, 8] (fun v t wr => ∃ (k kb : Nat) (bs : List Sb) (ss : List Sp), k ≤ 201 ∧ t = .int .i64 (k : Int) ∧ walkS nm es (201 - k) k bs = fin ∧ bs.length ≤ 2097152 ∧ OutS (w.heap.size + 1) bs v wr ss kb ∧ Heapy (nm.length : Int) bs ∧ Below (w.heap.size + 1) w1 wr) (fun _ t _ => 202 - (intOf t).toNat)
        case atStart => exact ⟨0, kb, _, ss, Nat.zero_le _, rfl, HW0.out, by omega, HO.out, HHP.out, HBW.out⟩
        case round =>
          clear HO HBW HW0 HHP
          obtain ⟨k, kb, bs, ss, hk201, rfl, hwk, hbl, hO, hhp, hbw⟩ := hrel
          have hssb : ss.length ≤ 2097152 := by rw [hO.len]; exact hbl
          have HLEN := Lib.hid hO.len
          obtain ⟨xc, rfl⟩ := hO.form
          have hBw := HB1.out.trans (hbw.mono (Nat.le_succ _))
          have hstop : ¬ (k < bs.length ∧ bs.length ≤ 200) → fin = bs := fun hn => by
            rw [← hwk]
            cases hq : 201 - k with
            | zero => rfl
            | succ f => rw [walkS, if_neg hn]
          have HSTOP := Lib.hid hstop
          have HO := Lib.hid hO
          have HBW := Lib.hid hbw
          have HBB := Lib.hid hBw
          have HWK := Lib.hid hwk
          have HHP := Lib.hid hhp
          have hzw := hbw.size
          have hno : fin.length ≤ 200 → r0 = (fin, true) := fun h => by rw [HFIN.out, if_pos h]
          have hno2 : ¬ fin.length ≤ 200 → r0 = ([], false) := fun h => by rw [HFIN.out, if_neg h]
          have HNO := Lib.hid hno
          have HNO2 := Lib.hid hno2
          clear hstop hO hbw hBw hwk hno hno2 hhp
          by_cases h2 : 200 < ss.length
          case' pos =>
            have hfn : ¬ fin.length ≤ 200 := by rw [HSTOP.out (by have := HLEN.out; omega)]; have := HLEN.out; omega
            have HE := Lib.hid (show StatesGot r0 w (.returned (.tuple #[.slice (some ⟨wr.heap.size, 0, none⟩) 0 0, .bool false])) (wr.alloc (.cells #[] 34)) by rw [HNO2.out hfn]; exact got_none _ (HBB.out.trans (Below.mono ((Below.refl _ _).alloc (Nat.le_refl _) _) HBB.out.size)))
            have h2i : ¬ ((ss.length : Int) ≤ 200) := by omega
            have h2j : (200 : Int) < (ss.length : Int) := by omega
            clear hfn
            by_cases hkl : k < ss.length
            all_goals
              go_wp2
              exact bodyPost_ret (v := .tuple #[.slice (some ⟨wr.heap.size, 0, none⟩) 0 0, .bool false]) (by simp [results, Tryz.results13, go_sem]) rfl HE.out
          case' neg =>
            have h2i : (ss.length : Int) ≤ 200 := by omega
            have h2j : ¬ ((200 : Int) < (ss.length : Int)) := by omega
            by_cases hkl : k < ss.length
            case' neg =>
              have hfs := HSTOP.out (by have := HLEN.out; omega)
              have HE := Lib.hid (show StatesGot r0 w (.returned (.tuple #[.slice (some ⟨kb, 0, none⟩) ss.length xc, .bool true])) wr by
                rw [HNO.out (by rw [hfs]; have := HLEN.out; omega), hfs]
                exact ⟨_, xc, ss, rfl, HO.out.body, HO.out.at_, HBB.out⟩)
              clear hfs
              go_wp2
              exact bodyPost_ret (v := .tuple #[.slice (some ⟨kb, 0, none⟩) ss.length xc, .bool true]) (by simp [results, Tryz.results13, go_sem]) rfl HE.out
            case' pos =>
              have hkb := (HO.out.own.lt kb rfl)
              have hkbs : k < bs.length := by have := HLEN.out; omega
              obtain ⟨st, hst⟩ : ∃ st, bs.getD k noSb = st := ⟨_, rfl⟩
              obtain ⟨y, hyb, hym, ⟨c0, _, _⟩, _, _, _⟩ := HO.out.item hkbs
              rw [hst] at hyb
              have hq : y.p = st.1 := congrArg Prod.fst hyb
              rw [hq] at c0
              have bxr := BX1.out.belowB HBW.out (Nat.lt_succ_self _)
              have hS : ∀ W, Below wr.heap.size wr W → (W.cell? ⟨w.heap.size, 0, none⟩ = some (.slice va nm.length vc) ∧ W.cell? ⟨w.heap.size, 1, none⟩ = some (.int .i64 np) ∧ W.cell? ⟨w.heap.size, 2, none⟩ = some (.slice ba es.length bc)) ∧ W.cell? ⟨kb, k * 3, none⟩ = some (.int .i64 st.1) := fun W hb =>
                have hp := bxr.below hb
                ⟨⟨hp.c 0 _ rfl, hp.c 1 _ rfl, hp.c 2 _ rfl⟩, (hb.cell (p := ⟨kb, k * 3, none⟩) hkb.2).trans c0⟩
              have HS := Lib.hid hS
              have hD : Below wr.heap.size wr wr.drew := Below.drew (Below.refl _ _)
              have hwn : walkS nm es (201 - (k + 1)) (k + 1) (addAfterS nm es st bs) = fin := by
                have h1 := HWK.out
                rw [show 201 - k = (201 - (k + 1)) + 1 by omega, walkS, if_pos ⟨hkbs, by have := HLEN.out; omega⟩, roundS, hst] at h1
                exact h1
              have HWN := Lib.hid hwn
              have hfold := fold_len (nm := nm) (es := es) st (edgesS es st) bs
              have hed : (edgesS es st).length ≤ es.length := Nat.le_trans (posFrom_length _ _ _) (by rw [fromsOf_length]; exact Nat.le_refl _)
              have hal : (addAfterS nm es st bs).length ≤ 2097152 := by
                have h1 : (addAfterS nm es st bs).length = ((edgesS es st).foldl (stepS nm es st) bs).length := rfl
                have := HLEN.out
                omega
              have HAL := Lib.hid hal
              have HHA := Lib.hid (show Heapy (nm.length : Int) (addAfterS nm es st bs) from heapy_fold st _ _ HHP.out)
              have HST := Lib.hid hst
              have hk1 : k + 1 ≤ 201 := by omega
              clear hS hyb hym hq c0 bxr hwn hfold hal
              go_wp2
              go_region_held3 (fun W => (W.cell? ⟨w.heap.size, 0, none⟩ = some (.slice va nm.length vc) ∧ W.cell? ⟨w.heap.size, 1, none⟩ = some (.int .i64 np) ∧ W.cell? ⟨w.heap.size, 2, none⟩ = some (.slice ba es.length bc)) ∧ W.cell? ⟨kb, k * 3, none⟩ = some (.int .i64 st.1))
                (first | exact HS.out _ hD | exact HS.out _ (Below.drew hD) | exact HS.out _ H5)
                (first
                  | (go_at_call 47; (with_reducible refine (specEdgesFrom va ba nm.length vc bc es np st.1 _ hes1 (KEY.out _ (HBB.out.trans (hD.mono HBB.out.size))).1.2).mono ?_); rintro e w5 ⟨ag, cg, rfl, hcg, hg, hb5⟩; have H5 := hD.trans (hb5.mono hD.size))
                  | fail)
              rw [intVals_length] at *
              have hz5 := H5.size
              have hpl : (posFrom st.1 0 (fromsOf es)).length ≤ es.length := hed
              have hEDm : ∀ m ∈ posFrom st.1 0 (fromsOf es), hasEdge es st.1 m = true := fun m hm => edges_has (st := st) hm
              have hgb : ∀ k, (Value.slice ag (posFrom st.1 0 (fromsOf es)).length cg).ownBlock = some k → wr.heap.size ≤ k := fun k hk => (hg.lt k hk).1
              obtain ⟨ED, hEDD⟩ : ∃ ED, posFrom st.1 0 (fromsOf es) = ED := ⟨_, rfl⟩
              have hfo : addAfterS nm es st bs = ED.foldl (stepS nm es st) bs := by rw [← hEDD]; rfl
              rw [hEDD] at hEDm hpl hgb hg
              rw [hEDD]
              have HFO := Lib.hid hfo
              have HEDM := Lib.hid hEDm
              have HG := Lib.hid hg
              have HGB := Lib.hid hgb
              have HO5 := Lib.hid (HO.out.below H5)
              have HB5 := Lib.hid (HBW.out.trans (H5.mono (by omega)))
              have HH5 := Lib.hid H5
              have hkw5 : kb < w5.heap.size := by omega
              clear hEDD hfo hEDm hg hgb H5 hb5 hD HS hed
              go_wp2
              go_loopw [6, 10] (fun v t wq => ∃ (j kb' : Nat) (ss' : List Sp), j ≤ ED.length ∧ t = .int .i64 (j : Int) ∧ OutS (w.heap.size + 1) ((ED.take j).foldl (stepS nm es st) bs) v wq ss' kb' ∧ (kb' = kb ∨ w5.heap.size ≤ kb') ∧ Only (fun i => i = kb) w5 wq) (fun _ t _ => ED.length - (intOf t).toNat)
              case atStart => exact ⟨0, kb, ss, Nat.zero_le _, rfl, HO5.out, .inl rfl, Only.refl⟩
              case round =>
                obtain ⟨j, kb', ss', hj, rfl, hO, hkk, hon⟩ := hrel
                obtain ⟨xc', rfl⟩ := hO.form
                obtain ⟨W1, rfl⟩ : ∃ W1, W1 = wr := ⟨_, rfl⟩
                by_cases hlj : j < ED.length
                case' neg =>
                  obtain rfl : j = ED.length := by omega
                  rw [List.take_length, ← HFO.out] at hO
                  have HN := Lib.hid hO
                  have HBN := Lib.hid (hon.below HB5.out (by omega) (fun i hi => by omega))
                  clear hO hon
                  go_wp2
                  go_roundw
                  case rel => exact ⟨k + 1, kb', _, ss', hk1, by go_num, HWN.out, HAL.out, HN.out, HHA.out, HBN.out⟩
                  case measure => simp [intOf]; omega
                case' pos =>
                  have HJ1 := Lib.hid (show j + 1 ≤ ED.length from hlj)
                  have hBi := hon.below HB5.out (by omega) (fun i hi => by omega)
                  have hBw := HB1.out.trans (hBi.mono (Nat.le_succ _))
                  have bxi := BX1.out.belowB hBi (Nat.lt_succ_self _)
                  have hrow : Row W1 W1.heap.size ag (intVals ED) := Row.owned (own_onlyA HG.out hon fun i hi => by have := HGB.out i hi; omega)
                  obtain ⟨eb, eo, rfl, hebl, hec⟩ := hrow j (.int .i64 ED[j]) (intVals_at ED j hlj)
                  have hnext := fold_next (nm := nm) (es := es) st ED bs j hlj
                  have hin := HEDM.out ED[j] (List.getElem_mem hlj)
                  generalize ED[j] = ed at *
                  obtain ⟨⟨hge, hle⟩, hfe⟩ : (0 ≤ ed ∧ ed ≤ (es.length : Int) - 1) ∧ (es.getD ed.toNat ⟨0, 0, 0, ⟨#[]⟩, ⟨#[]⟩⟩).f = st.1 := by simpa [hasEdge] using hin
                  obtain ⟨m, rfl⟩ : ∃ m : Nat, ed = (m : Int) := ⟨ed.toNat, by omega⟩
                  have hml : m < es.length := by omega
                  have hxe : edgeAt es (m : Int) = es[m] := by simp [edgeAt, hml]
                  obtain ⟨bb, bo, rfl, hbbl, hEA⟩ := (KEY.out _ hBw).1.2.edge m hml
                  have hns : nextS nm es st (m : Int) = ((execS nm es[m].k es[m].a es[m].b st.2.1 st.2.2).1, (es[m].t, (execS nm es[m].k es[m].a es[m].b st.2.1 st.2.2).2)) := by
                    rw [nextS, hxe]
                  generalize es[m] = x at *
                  obtain ⟨c9, us, ys, hex⟩ : ∃ c us ys, execS nm x.k x.a x.b st.2.1 st.2.2 = (c, us, ys) := ⟨_, _, _, rfl⟩
                  rw [hex] at hns
                  obtain ⟨rr, hrr⟩ := fold_pre (ss := nm) (es := es) st (ED.take j) bs
                  have hkj : k < ((ED.take j).foldl (stepS nm es st) bs).length := by rw [hrr, List.length_append]; omega
                  have hgj : ((ED.take j).foldl (stepS nm es st) bs).getD k noSb = st := by rw [hrr, getD_pre hkbs]; exact HST.out
                  obtain ⟨⟨yp, ya, yca, yb, ycb, yvs, yzs⟩, hyb, _, ⟨d0, d1, d2⟩, hyat, hna, hnb⟩ := hO.item hkj
                  rw [hgj] at hyb
                  obtain rfl : yp = st.1 := congrArg Prod.fst hyb
                  obtain rfl : yvs = st.2.1 := congrArg (fun z => z.2.1) hyb
                  obtain rfl : yzs = st.2.2 := congrArg (fun z => z.2.2) hyb
                  have hstm : st ∈ bs := by
                    have h1 := HST.out
                    rw [List.getD_eq_getElem?_getD, List.getElem?_eq_getElem hkbs] at h1
                    have h2 : bs[k] = st := h1
                    rw [← h2]
                    exact List.getElem_mem _
                  have hlst := heapy_lens HHP.out hstm
                  have p2 := bxi.c 2 _ rfl
                  have e0 := hEA.f
                  have e1 := hEA.t
                  have e2 := hEA.k
                  have e3 := hEA.a
                  have e4 := hEA.b
                  have hxl := bxi.lt
                  have n1 : ¬ w.heap.size = W1.heap.size := by omega
                  have n2 : ¬ eb = W1.heap.size := by omega
                  have n3 : ¬ bb = W1.heap.size := by omega
                  have hji : (j : Int) < (ED.length : Int) := by omega
                  have hmi : (m : Int) < (es.length : Int) := by omega
                  have BXI := Lib.hid bxi
                  have HEX := Lib.hid hex
                  have HNS := Lib.hid hns
                  have HNX := Lib.hid hnext
                  have HOI := Lib.hid hO
                  have HON := Lib.hid hon
                  have HBI := Lib.hid hBi
                  have HBWI := Lib.hid hBw
                  have HYAT := Lib.hid (show HeapAt W1 ya yb st.2.1 st.2.2 from hyat)
                  have HD12 := Lib.hid (And.intro d1 d2)
                  have hz1w := hon.size
                  have hkbl := (hO.own.lt kb' rfl)
                  have hlen2 := fold_len (nm := nm) (es := es) st (ED.take j) bs
                  rw [List.length_take] at hlen2
                  have hks2 : k < ss'.length := by rw [hO.len]; exact hkj
                  have hks3 : (k : Int) < (ss'.length : Int) := by omega
                  have hyl := hO.len
                  have HYL := Lib.hid hyl
                  have hHj := heapy_fold (nm := nm) (es := es) st (ED.take j) bs HHP.out
                  have HHJ := Lib.hid hHj
                  clear hBi hBw bxi hrow hnext hin hfe hxe hns hex hrr hkj hgj hyb hO hon d0 d1 d2 hyat hEA hstm hyl hHj
                  go_wp2
                  go_region
                  have hb6 := Below.drew ((Below.refl W1.heap.size W1).alloc (Nat.le_refl _) (.cells #[.int .i64 x.f, .int .i64 x.t, .int .i64 x.k, .string x.a, .string x.b] 85))
                  have bX : BoxL (W1.alloc (.cells #[.int .i64 x.f, .int .i64 x.t, .int .i64 x.k, .string x.a, .string x.b] 85)).drew W1.heap.size [.int .i64 x.f, .int .i64 x.t, .int .i64 x.k, .string x.a, .string x.b] := (BoxL.new W1 [.int .i64 x.f, .int .i64 x.t, .int .i64 x.k, .string x.a, .string x.b] 85).below (Below.drew (Below.refl _ _))
                  obtain ⟨W6, hW6⟩ : ∃ W, (W1.alloc (.cells #[.int .i64 x.f, .int .i64 x.t, .int .i64 x.k, .string x.a, .string x.b] 85)).drew = W := ⟨_, rfl⟩
                  rw [hW6] at hb6 bX ⊢
                  have hz6 := hb6.size
                  have hS : ∀ W, Below W6.heap.size W6 W → (W.cell? ⟨w.heap.size, 0, none⟩ = some (.slice va nm.length vc) ∧ (W.cell? ⟨kb', k * 3 + 1, none⟩ = some (.slice ya st.2.1.length yca) ∧ W.cell? ⟨kb', k * 3 + 2, none⟩ = some (.slice yb st.2.2.length ycb))) ∧ (W.cell? ⟨W1.heap.size, 2, none⟩ = some (.int .i64 x.k) ∧ W.cell? ⟨W1.heap.size, 3, none⟩ = some (.string x.a) ∧ W.cell? ⟨W1.heap.size, 4, none⟩ = some (.string x.b)) := fun W hb =>
                    have hbW := hb6.trans (hb.mono hz6)
                    have hX := bX.below hb
                    ⟨⟨(BXI.out.below hbW).c 0 _ rfl, (hbW.cell (p := ⟨kb', k * 3 + 1, none⟩) hkbl.2).trans HD12.out.1, (hbW.cell (p := ⟨kb', k * 3 + 2, none⟩) hkbl.2).trans HD12.out.2⟩, hX.c 2 _ rfl, hX.c 3 _ rfl, hX.c 4 _ rfl⟩
                  have hK6 : ∀ W, Below W6.heap.size W6 W → Row W W.heap.size va (strVals nm) ∧ HeapAt W ya yb st.2.1 st.2.2 := fun W hb =>
                    have hbW := hb6.trans (hb.mono hz6)
                    ⟨(KEY.out _ (HBWI.out.trans (hbW.mono HBWI.out.size))).1.1, HYAT.out.below hbW (Nat.le_refl _)⟩
                  have HS6 := Lib.hid hS
                  have HK6 := Lib.hid hK6
                  have HB6 := Lib.hid hb6
                  have HBX6 := Lib.hid bX
                  have hD : Below W6.heap.size W6 W6.drew := Below.drew (Below.refl _ _)
                  have hst4 : st.2.1.length ≤ maxLen := by unfold maxLen; omega
                  have hst6 : st.2.2.length ≤ maxLen := by unfold maxLen; omega
                  clear hW6 hb6 bX hS hK6 p2 e0 e1 e2 e3 e4 hec
                  go_wp2
                  go_region_held3 (fun W => (W.cell? ⟨w.heap.size, 0, none⟩ = some (.slice va nm.length vc) ∧ (W.cell? ⟨kb', k * 3 + 1, none⟩ = some (.slice ya st.2.1.length yca) ∧ W.cell? ⟨kb', k * 3 + 2, none⟩ = some (.slice yb st.2.2.length ycb))) ∧ (W.cell? ⟨W1.heap.size, 2, none⟩ = some (.int .i64 x.k) ∧ W.cell? ⟨W1.heap.size, 3, none⟩ = some (.string x.a) ∧ W.cell? ⟨W1.heap.size, 4, none⟩ = some (.string x.b)))
                    (first | exact HS6.out _ (by repeat (first | with_reducible exact Below.refl _ _ | with_reducible assumption | with_reducible refine Below.drew ?_ | with_reducible refine Below.setCell ?_ (by first | exact Nat.le_refl _ | exact z7) _ | with_reducible refine Below.alloc ?_ (by first | exact Nat.le_refl _ | exact z7) _)))
                    (first
                      | (go_at_call 59; (with_reducible refine (specExec va vc nm x.k x.a x.b ya yb yca ycb st.2.1 st.2.2 _ HNM.out.1 HNM.out.2 (HK6.out _ (by repeat (first | with_reducible exact Below.refl _ _ | with_reducible assumption | with_reducible refine Below.drew ?_ | with_reducible refine Below.alloc ?_ (Nat.le_refl _) _))).1 hst4 hst6 (HK6.out _ (by repeat (first | with_reducible exact Below.refl _ _ | with_reducible assumption | with_reducible refine Below.drew ?_ | with_reducible refine Below.alloc ?_ (Nat.le_refl _) _))).2 hna hnb).mono ?_); rw [HEX.out]; rintro e w7 ⟨xa, xca, xb, xcb, rfl, hin7, hb7⟩; have H7 : Below W6.heap.size W6 w7 := Below.trans (by repeat (first | with_reducible exact Below.refl _ _ | with_reducible assumption | with_reducible refine Below.drew ?_ | with_reducible refine Below.alloc ?_ (Nat.le_refl _) _)) (hb7.mono (by first | exact Nat.le_refl _ | (simp; done))); have z7 := H7.size; (try (have bA7 : BoxL w7 W6.heap.size [.slice none 0 0, .slice none 0 0] := BoxL.below (BoxL.new W6.drew [.slice none 0 0, .slice none 0 0] 30) hb7; have e70 := bA7.c 0 _ rfl; have e71 := bA7.c 1 _ rfl; have f70 := bA7.f; have l70 := bA7.lt)); skip)
                      | fail)
                  all_goals
                    first
                      | (obtain ⟨WA, hWA, bA, hNA, hBA⟩ := after2_alloc (w5 := W6) 30 hin7 (Nat.le_refl _) H7
                         rw [hWA])
                      | (obtain ⟨WA, hWA, bA, hNA, hBA⟩ := after2_store (w5 := W6) bA7 (Nat.le_refl _) (by simp) hin7 H7
                         rw [hWA])
                    clear hWA hin7 hb7 H7 hD
                    try clear e70 e71 f70 l70 bA7
                    have hzA := hBA.size
                    have hBA1 := HB6.out.trans (hBA.mono hz6)
                    have HNA := Lib.hid hNA
                    have HOA := Lib.hid (HOI.out.below hBA1)
                    have HBA1 := Lib.hid hBA1
                    have bXA := HBX6.out.below hBA
                    clear hBA hNA hBA1
                    by_cases hc9 : c9 = 0
                    case' neg =>
                      have hcb : (c9 == 0) = false := by simpa using hc9
                      have hE : stepS nm es st ((ED.take j).foldl (stepS nm es st) bs) (m : Int) = (ED.take j).foldl (stepS nm es st) bs := by
                        rw [stepS, if_neg (by rw [HNS.out]; exact hc9)]
                      have HE := Lib.hid (show OutS (w.heap.size + 1) ((ED.take (j + 1)).foldl (stepS nm es st) bs) _ WA ss' kb' by rw [HNX.out, hE]; exact HOA.out)
                      clear hc9 bA bXA hE
                      go_wp2
                      go_roundw
                      case rel => exact ⟨j + 1, kb', ss', HJ1.out, by go_num, HE.out, hkk, HON.out.trans (Only.of_below HBA1.out)⟩
                      case measure => have := HJ1.out; simp [intOf]; omega
                    case' pos =>
                      subst hc9
                      have hhb := exec_heap HEX.out
                      obtain ⟨⟨_, hu4, _⟩, hy6, _⟩ := heapB_parts hhb
                      have a0 := bA.c 0 _ rfl
                      have a1 := bA.c 1 _ rfl
                      have x1 := bXA.c 1 _ rfl
                      have hin := HNA.out
                      have hnu := own_nils hin.v.2.1
                      have hny := own_nils hin.z.2.1
                      have hsl2 : ss'.length ≤ 16777216 := by have := HYL.out; omega
                      clear bA bXA hin
                      go_wp2_with fail
                      refine (specPut (w.heap.size + 1) _ _ ss' kb' x.t xa xb xca xcb us ys _ HOA.out (by omega) hsl2 (fun z hz => by have := heapy_lens HHJ.out hz; unfold maxLen; omega) (HNA.out.at_) (fun e => (hnu e).2) (fun e => (hny e).2) (by omega) (by omega)).mono ?_
                      rintro e w9 ⟨v9, ss9, kb9, rfl, hO9, hk9, hon9⟩
                      have hE : stepS nm es st ((ED.take j).foldl (stepS nm es st) bs) (m : Int) = putS ((ED.take j).foldl (stepS nm es st) bs) (x.t, (us, ys)) := by
                        rw [stepS, if_pos (by rw [HNS.out]), HNS.out]
                      have HE := Lib.hid (show OutS (w.heap.size + 1) ((ED.take (j + 1)).foldl (stepS nm es st) bs) v9 w9 ss9 kb9 by rw [HNX.out, hE]; exact hO9)
                      have HON9 := Lib.hid hon9
                      clear hO9 hon9 hE a0 a1 x1
                      go_wp2
                      go_roundw
                      case rel =>
                        have ht := HON.out.trans (Only.of_below HBA1.out)
                        have h9 := HON9.out
                        have hzz := HBA1.out.size
                        refine ⟨j + 1, kb9, ss9, HJ1.out, by go_num, HE.out, ?_, ⟨h9.os.trans ht.os, h9.tape.trans ht.tape, h9.output.trans ht.output, Nat.le_trans ht.size h9.size, fun i hi hn => (h9.block i (Nat.lt_of_lt_of_le hi ht.size) (by omega)).trans (ht.block i hi hn)⟩⟩
                        rcases hk9 with e | e
                        · rw [e]; exact hkk
                        · exact .inr (by omega)
                      case measure => have := HJ1.out; simp [intOf]; omega
end Go.Proofs.YtpmmjaceehlpiaaGreatDoor
