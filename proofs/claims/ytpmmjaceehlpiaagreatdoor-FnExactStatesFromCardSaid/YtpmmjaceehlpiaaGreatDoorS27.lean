/-
  The program's states that can be reached.
-/
import Derived.Test.YtpmmjaceehlpiaaGreatDoorS26
import Derived.Test.YtpmmjaceehlpiaaGreatDoorS18
namespace Go.Proofs.YtpmmjaceehlpiaaGreatDoor
open Go Go.RowKit Go.ChangeShapes Go.WideShapes Go.ChangeAt Go.Maps

/-- States that a call made, in a row of its own, and whether it found them all. -/
def StatesMade (r : List Sb × Bool) (w : World) (e : Ending) (w' : World) : Prop :=
  ∃ v ss, e = .returned (.tuple #[v, .bool r.2]) ∧ ss.map Sp.body = r.1 ∧ w'.ownsRow w.heap.size 34 3 v ss.length (spVals ss) ∧ HeapsIn w.heap.size w' (ss.map Sp.h) ∧ (∀ k, v.ownBlock = some k → ¬ hasAny (ss.map Sp.h) k) ∧ Below w.heap.size w w'
theorem no_states {w w' : World} (h : Below w.heap.size w w') : StatesMade ([], false) w (.returned (.tuple #[.slice none 0 0, .bool false])) w' :=
  ⟨_, [], rfl, rfl, World.ownsRow_nil _ _ _ _, HeapsIn.nil, fun k hk => (by cases hk), h⟩
theorem startS_next (hs : List (List Int × List Int)) (k : Nat) (h : k < hs.length) : startS (hs.take (k + 1)) = putS (startS (hs.take k)) (0, hs[k]) := by
  unfold startS
  rw [take_next hs k h, List.foldl_append]
  rfl
theorem startS_len : ∀ (hs : List (List Int × List Int)), (startS hs).length ≤ hs.length := by
  have h : ∀ (hs : List (List Int × List Int)) (l : List Sb), (hs.foldl (fun l h => putS l (0, h)) l).length ≤ l.length + hs.length := by
    intro hs
    induction hs with
    | nil => intro l; simp
    | cons x hs ih =>
      intro l
      have h1 := ih (putS l (0, x))
      have h2 := (putS_len l (0, x)).2
      rw [List.foldl_cons, List.length_cons]
      omega
  intro hs
  have := h hs []
  simpa [startS] using this
theorem prog_fits {nm : List ByteArray} {n : Int} {es : List Ed} (h : progB nm n es = true) : es.length ≤ 24 ∧ ∀ x ∈ es, Fits x.t := by
  simp only [progB, Bool.and_eq_true, decide_eq_true_eq, List.all_eq_true] at h
  obtain ⟨⟨⟨_, hn⟩, hl⟩, he⟩ := h
  refine ⟨hl, fun x hx => ?_⟩
  have h1 := he x hx
  simp only [edB, pointB, Bool.and_eq_true, decide_eq_true_eq] at h1
  exact fits_small (by omega) (by omega)
theorem list_new (w : World) (n : Nat) (t : TypeId) : ∃ W2, (w.alloc (.map #[] 0)).alloc (.cells #[.slice none 0 0, .map (some w.heap.size)] t) = W2 ∧ Below w.heap.size w W2 ∧ ListIs Unit (w.heap.size + 2) (w.heap.size + 1) w.heap.size n [] W2 (.slice none 0 0) [] ∧ W2.heap.size = w.heap.size + 2 := by
  have h1 : (w.alloc (.map #[] 0)).heap.size = w.heap.size + 1 := by simp
  have hb := (Below.refl (w.alloc (.map #[] 0)).heap.size (w.alloc (.map #[] 0))).alloc (Nat.le_refl _) (.cells #[.slice none 0 0, .map (some w.heap.size)] t)
  have hx := BoxL.new (w.alloc (.map #[] 0)) [.slice none 0 0, .map (some w.heap.size)] t
  rw [h1] at hx
  refine ⟨_, rfl, ((Below.refl _ _).alloc (Nat.le_refl _) _).alloc (by simp) _, ⟨hx, Met.below (World.ownsMap_made w _ _ _) hb, rfl, World.ownsRow_nil _ _ _ _, HeapsIn.nil, fun k hk => (by cases hk), fun y hy => (by simp at hy), by omega, by omega⟩, by simp⟩
theorem own_most {w : World} {base e size n : Nat} {v : Value} {xs : List Value} (h : w.ownsRow base e size v n xs) : n ≤ maxLen := by
  rcases h.2 with ⟨_, h0⟩ | ⟨g, cap, cur, _, _, _, h1, h2, _⟩
  · omega
  · exact Nat.le_trans h1 h2
set_option maxRecDepth 100000 in
set_option maxHeartbeats 3200000 in
theorem implStatesFrom (va : Option Addr) (vc : Nat) (nm : List ByteArray) (np : Int) (ba : Option Addr) (bc : Nat) (es : List Ed) (ha : Option Addr) (hc : Nat) (hs : List Hp) (w : World)
    (hnm : nm.length ≤ maxLen ∧ (∀ s ∈ nm, s.size ≤ maxLen) ∧ Row w w.heap.size va (strVals nm)) (hes : es.length ≤ 1048576 ∧ Row w w.heap.size ba (edVals es)) (hT : HasNamesTable w) (hhl : hs.length ≤ 1048576) (hh : HeapsAt w ha hs) (hlh : ∀ x ∈ hs, x.vs.length ≤ maxLen ∧ x.zs.length ≤ maxLen) :
    Calls Tryz.prog 12 #[.agg #[.slice va nm.length vc, .int .i64 np, .slice ba es.length bc], .slice ha hs.length hc] w (StatesMade (statesS nm np es (hs.map Hp.body)) w) := by
  obtain ⟨r0, hr0⟩ : ∃ r, statesS nm np es (hs.map Hp.body) = r := ⟨_, rfl⟩
  rw [hr0]
  obtain ⟨pb, hpb⟩ : ∃ pb, progB nm np es = pb := ⟨_, rfl⟩
  have hmm := @run_makeMap Tryz.prog
  have key : ∀ W, Below w.heap.size w W → (Row W W.heap.size va (strVals nm) ∧ Row W W.heap.size ba (edVals es) ∧ HasNamesTable W) ∧ HeapsAt W ha hs := fun W hb => ⟨⟨(hnm.2.2.below hb).grow hb.size, (hes.2.below hb).grow hb.size, hT.keeps hb⟩, hh.below hb⟩
  have HPB := Lib.hid hpb
  have HR := Lib.hid hr0
  have KEY := Lib.hid key
  have HNM := Lib.hid (And.intro hnm.1 hnm.2.1)
  have HLH := Lib.hid hlh
  have hes1 := hes.1
  clear hpb hr0 key hnm hes hT hh hlh
  go_enter Tryz.func12, Tryz.ntmps12
  go_wp2_with fail
  have hb0 := (Below.refl w.heap.size w).alloc (Nat.le_refl _) (.cells #[.slice va nm.length vc, .int .i64 np, .slice ba es.length bc] 27)
  have hbx : BoxL (w.alloc (.cells #[.slice va nm.length vc, .int .i64 np, .slice ba es.length bc] 27)) w.heap.size [.slice va nm.length vc, .int .i64 np, .slice ba es.length bc] := BoxL.new w _ _
  obtain ⟨W0, hW0⟩ : ∃ W, w.alloc (.cells #[.slice va nm.length vc, .int .i64 np, .slice ba es.length bc] 27) = W := ⟨_, rfl⟩
  rw [hW0] at hb0 hbx ⊢
  clear hW0
  refine (implIsProgram va ba vc bc nm np es _ ⟨HNM.out.1, HNM.out.2, (KEY.out _ hb0).1.1⟩ ⟨by unfold maxLen; omega, (KEY.out _ hb0).1.2.1⟩ (KEY.out _ hb0).1.2.2).mono ?_
  rw [HPB.out]
  rintro e w1 ⟨rfl, hb1⟩
  have hB1 := hb0.trans (hb1.mono hb0.size)
  have bx1 := hbx.below hb1
  clear hb0 hbx hb1
  cases pb
  case' false =>
    have hrr : r0 = ([], false) := by rw [← HR.out, statesS, if_neg (by rw [HPB.out]; simp)]
    have HE := Lib.hid (show StatesMade r0 w (.returned (.tuple #[.slice none 0 0, .bool false])) w1 by rw [hrr]; exact no_states hB1)
    clear hrr hB1 bx1
    go_wp2
    exact bodyPost_ret (v := .tuple #[.slice none 0 0, .bool false]) (by simp [results, Tryz.results12, go_sem]) rfl HE.out
  case' true =>
    obtain ⟨hel, hfit⟩ := prog_fits HPB.out
    have hz1 := hB1.size
    have hx1 := bx1.lt
    have HFIT := Lib.hid hfit
    have HB1 := Lib.hid hB1
    have BX1 := Lib.hid bx1
    clear hfit hB1 bx1
    go_wp2
    obtain ⟨W2, hW2, hb2, hl2, hz2⟩ := list_new w1 nm.length 97
    rw [hW2]
    have HB2 := Lib.hid hb2
    have HL2 := Lib.hid hl2
    have hall0 : ((hs.map Hp.body).take 0).all (fun h => heapB (nm.length : Int) h.1 h.2) = true := by simp
    clear hW2 hb2 hl2 hmm
    go_loopw [17] (fun t wr => ∃ (j : Nat) (v : Value) (ss : List Sp), j ≤ hs.length ∧ t = .int .i64 (j : Int) ∧ ListIs Unit (w1.heap.size + 2) (w1.heap.size + 1) w1.heap.size nm.length (startS ((hs.map Hp.body).take j)) wr v ss ∧ ((hs.map Hp.body).take j).all (fun h => heapB (nm.length : Int) h.1 h.2) = true ∧ Below w1.heap.size w1 wr) (fun t _ => hs.length - (intOf t).toNat)
    case atStart => exact ⟨0, _, [], Nat.zero_le _, rfl, HL2.out, hall0, HB2.out⟩
    case round =>
      obtain ⟨j, v, ss, hj, rfl, hL, hall, hbw⟩ := hrel
      have hBw := HB1.out.trans (hbw.mono hz1)
      have bxw := BX1.out.below hbw
      by_cases hlt : j < hs.length
      · have HJ1 := Lib.hid (show j + 1 ≤ hs.length from hlt)
        obtain ⟨hb, ho, rfl, _, h0, h1, hat⟩ := (KEY.out _ hBw).2.item j hlt
        have hlx := HLH.out hs[j] (List.getElem_mem hlt)
        have hlm : j < (hs.map Hp.body).length := by rw [List.length_map]; exact hlt
        have hnx := startS_next (hs.map Hp.body) j hlm
        have hax : ((hs.map Hp.body).take (j + 1)).all (fun h => heapB (nm.length : Int) h.1 h.2) = (((hs.map Hp.body).take j).all (fun h => heapB (nm.length : Int) h.1 h.2) && heapB (nm.length : Int) hs[j].vs hs[j].zs) := by
          rw [take_next _ j hlm, List.all_append, List.all_cons, List.all_nil, Bool.and_true, List.getElem_map]
          rfl
        have hbx : (hs.map Hp.body)[j] = hs[j].body := List.getElem_map _
        rw [hbx] at hnx
        have hmem : hs[j].body ∈ hs.map Hp.body := List.mem_map_of_mem (List.getElem_mem hlt)
        generalize hs[j] = x at *
        have p0 := bxw.c 0 _ rfl
        have HAT := Lib.hid hat
        have HNX := Lib.hid hnx
        have HAX := Lib.hid hax
        have HALL := Lib.hid hall
        have HMEM := Lib.hid hmem
        have HL := Lib.hid hL
        have HBW := Lib.hid hbw
        have HBB := Lib.hid hBw
        have hzw := hbw.size
        have hxw := bxw.lt
        have BXW := Lib.hid bxw
        clear hat hnx hax hall hmem hL hbw hBw hbx hlm bxw
        go_wp2_with fail
        have hb5 := (Below.refl wr.heap.size wr).alloc (Nat.le_refl _) (.cells #[.slice x.a x.vs.length x.ca, .slice x.b x.zs.length x.cb] 30)
        have hbox := BoxL.new wr [.slice x.a x.vs.length x.ca, .slice x.b x.zs.length x.cb] 30
        replace hbox : BoxL (wr.alloc (.cells #[.slice x.a x.vs.length x.ca, .slice x.b x.zs.length x.cb] 30)) wr.heap.size [.slice x.a x.vs.length x.ca, .slice x.b x.zs.length x.cb] := hbox
        obtain ⟨WD, hWD⟩ : ∃ W, wr.alloc (.cells #[.slice x.a x.vs.length x.ca, .slice x.b x.zs.length x.cb] 30) = W := ⟨_, rfl⟩
        rw [hWD] at hb5 hbox ⊢
        clear hWD
        refine (implIsHeap (nm.length : Int) x.a x.b x.ca x.cb x.vs x.zs _ hlx.1 hlx.2 (HAT.out.below hb5)).mono ?_
        rintro e w6 ⟨rfl, hb6⟩
        have hb06 := hb5.trans (hb6.mono hb5.size)
        have hbox6 := hbox.below hb6
        have HB06 := Lib.hid hb06
        have HBOX6 := Lib.hid hbox6
        have hz6 := hb06.size
        clear hb5 hbox hb6 hb06 hbox6
        cases hp : heapB (nm.length : Int) x.vs x.zs
        case' false =>
          have hrr : r0 = ([], false) := by
            rw [← HR.out, statesS, if_neg]
            rintro ⟨_, h2⟩
            have h3 := List.all_eq_true.1 h2 x.body HMEM.out
            simp only [Hp.body] at h3
            rw [hp] at h3
            cases h3
          have HE := Lib.hid (show StatesMade r0 w (.returned (.tuple #[.slice none 0 0, .bool false])) w6 by rw [hrr]; exact no_states (HBB.out.trans (HB06.out.mono HBB.out.size)))
          clear hrr hp
          go_wp2
          exact bodyPost_ret (v := .tuple #[.slice none 0 0, .bool false]) (by simp [results, Tryz.results12, go_sem]) rfl HE.out
        case' true =>
          obtain ⟨⟨_, hx4, _⟩, hx6, _⟩ := heapB_parts hp
          have hkx : Kx nm.length (0, x.body) := kx_heap hp (fits_small (by omega) (by omega))
          have u0 := HBOX6.out.c 0 _ rfl
          have u1 := HBOX6.out.c 1 _ rfl
          go_wp2_with fail
          refine (implCopy x.a x.b x.ca x.cb x.vs x.zs _ (by omega) (by omega) (HAT.out.below HB06.out)).mono ?_
          rintro e w7 ⟨a7, c7, b7, d7, rfl, hin7, hb7⟩
          have hN7 : Hp.In w6.heap.size w7.heap.size w7 ⟨a7, c7, b7, d7, x.vs, x.zs⟩ := hin7
          have HN7 := Lib.hid hN7
          have HB07 := Lib.hid (HB06.out.trans (hb7.mono hz6))
          have hz7 := hb7.size
          have hlb := HL.out.box.lt
          have HL7 := Lib.hid (HL.out.below HB07.out)
          have hsl := startS_len ((hs.map Hp.body).take j)
          rw [List.length_take, List.length_map] at hsl
          clear hin7 hb7 hN7 u0 u1
          go_wp2_with fail
          refine (implAdd (w1.heap.size + 2) (w1.heap.size + 1) w1.heap.size nm.length _ v ss 0 ⟨a7, c7, b7, d7, x.vs, x.zs⟩ _ HL7.out hkx (HN7.out.mono (by omega) (Nat.le_refl _) (Nat.le_refl _)) (fun y hy k hk hk2 => by have h1 := (HL.out.ins.has_lt (List.mem_map_of_mem hy) hk).2; have h2 := (HN7.out.has_lt hk2).1; omega) (fun k hk hk2 => by have h1 := (HL.out.own.lt k hk).2; have h2 := (HN7.out.has_lt hk2).1; omega) (by omega) (by omega)).mono ?_
          rintro e w9 ⟨rfl, v9, ss9, hL9, _, hon9, _⟩
          have HL9 := Lib.hid hL9
          have HB9 := Lib.hid (hon9.below (HBW.out.trans (HB07.out.mono hzw)) (by omega) fun k hk => by
            rcases hk with h | h | h
            · omega
            · omega
            · have := (HL.out.own.lt k h).1
              omega)
          have HA9 := Lib.hid (show ((hs.map Hp.body).take (j + 1)).all (fun h => heapB (nm.length : Int) h.1 h.2) = true by rw [HAX.out, HALL.out, hp]; rfl)
          clear hL9 hon9 hp
          go_wp2
          go_roundw
          case rel => exact ⟨j + 1, v9, ss9, HJ1.out, by go_num, by rw [HNX.out]; exact HL9.out, HA9.out, HB9.out⟩
          case measure => have := HJ1.out; simp [intOf]; omega
      · obtain rfl : j = hs.length := by omega
        have htk : (hs.map Hp.body).take hs.length = hs.map Hp.body := List.take_of_length_le (by simp)
        rw [htk] at hL hall
        have hfin : r0 = if (walkS nm es 201 0 (startS (hs.map Hp.body))).length ≤ 200 then (walkS nm es 201 0 (startS (hs.map Hp.body)), true) else ([], false) := by
          rw [← HR.out, statesS, if_pos ⟨HPB.out, hall⟩]
        have hsl := startS_len (hs.map Hp.body)
        rw [List.length_map] at hsl
        obtain ⟨fin, hwf⟩ : ∃ fin, walkS nm es 201 0 (startS (hs.map Hp.body)) = fin := ⟨_, rfl⟩
        rw [hwf] at hfin
        have hw0 : walkS nm es (201 - 0) 0 (startS (hs.map Hp.body)) = fin := hwf
        have HFIN := Lib.hid hfin
        have HW0 := Lib.hid hw0
        have HL := Lib.hid hL
        have HBW := Lib.hid hbw
        clear hfin hwf hw0 hL hbw htk hBw bxw hall
        go_wp2
        go_loopw [9] (fun t wr => ∃ (k : Nat) (bs : List Sb) (v : Value) (ss : List Sp), k ≤ 201 ∧ t = .int .i64 (k : Int) ∧ walkS nm es (201 - k) k bs = fin ∧ bs.length ≤ 2097152 ∧ ListIs Unit (w1.heap.size + 2) (w1.heap.size + 1) w1.heap.size nm.length bs wr v ss ∧ Below w1.heap.size w1 wr) (fun t _ => 202 - (intOf t).toNat)
        case atStart => exact ⟨0, _, v, ss, Nat.zero_le _, rfl, HW0.out, by omega, HL.out, HBW.out⟩
        case round =>
          clear HL HBW HW0
          obtain ⟨k, bs, v, ss, hk201, rfl, hwk, hbl, hL, hbw⟩ := hrel
          have hssb : ss.length ≤ 2097152 := by rw [hL.len]; exact hbl
          have HLEN := Lib.hid hL.len
          obtain ⟨xa, xc, rfl⟩ := own_shape2 hL.own
          have l0 := hL.box.c 0 _ rfl
          have hBw := HB1.out.trans (hbw.mono hz1)
          have hstop : ¬ (k < bs.length ∧ bs.length ≤ 200) → fin = bs := fun hn => by
            rw [← hwk]
            cases hq : 201 - k with
            | zero => rfl
            | succ f => rw [walkS, if_neg hn]
          have HSTOP := Lib.hid hstop
          have HL := Lib.hid hL
          have HBW := Lib.hid hbw
          have HBB := Lib.hid hBw
          have HWK := Lib.hid hwk
          have hzw := hbw.size
          have hlb := hL.box.lt
          have hno : fin.length ≤ 200 → r0 = (fin, true) := fun h => by rw [HFIN.out, if_pos h]
          have hno2 : ¬ fin.length ≤ 200 → r0 = ([], false) := fun h => by rw [HFIN.out, if_neg h]
          have HNO := Lib.hid hno
          have HNO2 := Lib.hid hno2
          clear hstop hL hbw hBw hwk hno hno2
          have HTL := Lib.hid (fun W (h : Below wr.heap.size wr W) => implTooLong (w1.heap.size + 1) ss.length xc xa (.map (some w1.heap.size)) W (HL.out.below h).box (by omega))
          by_cases h2 : 200 < ss.length
          case' pos =>
            have hfn : ¬ fin.length ≤ 200 := by rw [HSTOP.out (by have := HLEN.out; omega)]; have := HLEN.out; omega
            have HE := Lib.hid (show StatesMade r0 w (.returned (.tuple #[.slice none 0 0, .bool false])) wr by rw [HNO2.out hfn]; exact no_states HBB.out)
            have hd2 : decide (200 < ss.length) = true := decide_eq_true h2
            clear hfn
            by_cases hkl : k < ss.length
            · go_wp2_with fail
              have hq := HTL.out _ (Below.refl _ _)
              rw [hd2] at hq
              refine hq.mono ?_
              rintro e w6 ⟨rfl, rfl⟩
              go_wp2_with fail
              have hq := HTL.out _ (Below.refl _ _)
              rw [hd2] at hq
              refine hq.mono ?_
              rintro e w6 ⟨rfl, rfl⟩
              go_wp2
              exact bodyPost_ret (v := .tuple #[.slice none 0 0, .bool false]) (by simp [results, Tryz.results12, go_sem]) rfl HE.out
            · go_wp2_with fail
              have hq := HTL.out _ (Below.refl _ _)
              rw [hd2] at hq
              refine hq.mono ?_
              rintro e w6 ⟨rfl, rfl⟩
              go_wp2
              exact bodyPost_ret (v := .tuple #[.slice none 0 0, .bool false]) (by simp [results, Tryz.results12, go_sem]) rfl HE.out
          case' neg =>
            have hd2 : decide (200 < ss.length) = false := decide_eq_false h2
            by_cases hkl : k < ss.length
            case' neg =>
              have hfs := HSTOP.out (by have := HLEN.out; omega)
              have HE := Lib.hid (show StatesMade r0 w (.returned (.tuple #[.slice xa ss.length xc, .bool true])) wr by
                rw [HNO.out (by rw [hfs]; have := HLEN.out; omega), hfs]
                exact ⟨_, ss, rfl, HL.out.body, own_base HL.out.own (by omega), HL.out.ins.mono (by omega), HL.out.off, HBB.out⟩)
              clear hfs
              go_wp2_with fail
              have hq := HTL.out _ (Below.refl _ _)
              rw [hd2] at hq
              refine hq.mono ?_
              rintro e w6 ⟨rfl, rfl⟩
              go_wp2
              exact bodyPost_ret (v := .tuple #[.slice xa ss.length xc, .bool true]) (by simp [results, Tryz.results12, go_sem]) rfl HE.out
            case' pos =>
              go_wp2_with fail
              have hq := HTL.out _ (Below.refl _ _)
              rw [hd2] at hq
              refine hq.mono ?_
              rintro e w6 ⟨rfl, rfl⟩
              have hsat : StatesAt wr xa ss := ⟨(OwnIn.of HL.out.own).row, fun x hx => HL.out.ins.at_ (List.mem_map_of_mem hx)⟩
              obtain ⟨g, o, rfl, _, s0, s1, s2, _⟩ := hsat.item k hkl
              have bxr := BX1.out.below HBW.out
              have p0 := bxr.c 0 _ rfl
              have p1 := bxr.c 1 _ rfl
              have p2 := bxr.c 2 _ rfl
              have hfold := fold_len (nm := nm) (es := es) ss[k].body (edgesS es ss[k].body) bs
              have hed : (edgesS es ss[k].body).length ≤ es.length := Nat.le_trans (posFrom_length _ _ _) (by rw [fromsOf_length]; exact Nat.le_refl _)
              have hgd : bs.getD k noSb = ss[k].body := by
                have h1 : (ss.map Sp.body)[k]? = bs[k]? := by rw [HL.out.body]
                rw [List.getD_eq_getElem?_getD, ← h1]
                simp [hkl]
              have hwn : walkS nm es (201 - (k + 1)) (k + 1) (addAfterS nm es ss[k].body bs) = fin := by
                have h1 := HWK.out
                rw [show 201 - k = (201 - (k + 1)) + 1 by have := HLEN.out; omega, walkS, if_pos ⟨by have := HLEN.out; omega, by have := HLEN.out; omega⟩, roundS, hgd] at h1
                exact h1
              have HWN := Lib.hid hwn
              have hal : (addAfterS nm es ss[k].body bs).length ≤ 2097152 := by
                have h1 : (addAfterS nm es ss[k].body bs).length = ((edgesS es ss[k].body).foldl (stepS nm es ss[k].body) bs).length := rfl
                have := HLEN.out
                omega
              have hadd := fun W (hb : Below wr.heap.size wr W) => implAddAfter (H := Unit) (w1.heap.size + 2) (w1.heap.size + 1) w1.heap.size w.heap.size bs _ ss va vc nm np ba bc es k hkl W (HL.out.below hb) hz1 (Nat.le_trans (by omega) hb.size) HNM.out hes1 (fun W' hb' => (KEY.out W' (HBB.out.trans ((hb.mono (Nat.le_trans hz1 hzw)).trans hb'))).1) HFIT.out (by omega)
              have HADD := Lib.hid hadd
              clear hsat bxr hfold hed hgd hwn hadd
              generalize ss[k].p = sp at *
              generalize ss[k].body = sb at *
              generalize ss[k].h = sh at *
              have HAL := Lib.hid hal
              have hk1 : k + 1 ≤ 201 := by omega
              clear hal
              go_wp2
              go_region_law (first | (go_simp; go_at_call 64; (with_reducible refine (HADD.out _ (Below.drew (Below.refl _ _))).mono ?_); rintro e w9 ⟨rfl, v9, ss9, hL9, _, hon9, _⟩))
              all_goals
                have HL9 := Lib.hid hL9
                have HB9 := Lib.hid (hon9.below (Below.drew HBW.out) hzw fun k hk => by
                  rcases hk with h | h | h
                  · omega
                  · omega
                  · have := (HL.out.own.lt k h).1
                    omega)
                clear hL9 hon9 l0 s0 s1 s2 p0 p1 p2
                go_wp2
                go_roundw
                case rel => exact ⟨k + 1, _, v9, ss9, hk1, by go_num, HWN.out, HAL.out, HL9.out, HB9.out⟩
                case measure => simp [intOf]; omega
end Go.Proofs.YtpmmjaceehlpiaaGreatDoor
