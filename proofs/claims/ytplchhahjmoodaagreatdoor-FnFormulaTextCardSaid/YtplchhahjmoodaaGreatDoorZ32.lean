/-
  The program's text of a formula that is right. (Printed by wip/tools/gen_impl_form_text.py.)
-/
import Derived.Test.YtplchhahjmoodaaGreatDoorZ30
import Derived.Test.YtplchhahjmoodaaGreatDoorZ10
namespace Go.Proofs.YtplchhahjmoodaaGreatDoor
open Go Go.RowKit Go.ChangeAt Go.ChangeShapes Go.WideShapes

theorem app_empty (a : ByteArray) : a ++ (⟨#[]⟩ : ByteArray) = a := by
  ext1
  simp
theorem jn_two (p0 p1 : ByteArray) (c : UInt8) : (⟨(jn [p0, p1] ⟨#[c]⟩).toArray⟩ : ByteArray) = p0 ++ ⟨#[c]⟩ ++ p1 := by
  have h := jn_snoc p0 [] p1 ⟨#[c]⟩
  rw [jn_one] at h
  rw [show [p0, p1] = [p0] ++ [p1] from rfl, h]
  ext1
  simp
theorem jn_oneB (p0 sep : ByteArray) : (⟨(jn [p0] sep).toArray⟩ : ByteArray) = p0 := by
  rw [jn_one]
theorem pair_text (p0 p1 : ByteArray) (c : UInt8) : (⟨#[40]⟩ : ByteArray) ++ (p0 ++ ⟨#[c]⟩ ++ p1) ++ ⟨#[41]⟩ = (⟨#[40]⟩ : ByteArray) ++ p0 ++ ⟨#[c]⟩ ++ p1 ++ ⟨#[41]⟩ := by
  simp only [ByteArray.append_assoc]
theorem ta_run_and (u : TypeId) (w : World) : (Instr.typeAssert (.iface u (.agg #[])) 109 114 true).run Tryz.prog w = .ok (.tuple #[.agg #[], .bool (u == 114)]) w := ta_and u w
theorem total_le_part {P : List ByteArray} {m : Nat} (h : ∀ s ∈ P, s.size ≤ m) : total P ≤ P.length * m := by
  induction P with
  | nil => simp [total]
  | cons a r ih =>
    have h1 := h a (by simp)
    have h2 := ih fun s hs => h s (by simp [hs])
    simp only [total, List.map_cons, List.sum_cons, List.length_cons, Nat.succ_mul] at h2 ⊢
    omega
set_option maxRecDepth 100000 in
set_option maxHeartbeats 6400000 in
theorem implText (ss : List ByteArray) (va : Option Addr) (vca : Nat) (hgood : ∀ s ∈ ss, s.size ≤ 2) : ∀ x : Ft, ∀ w : World, x.er.formB ss.length = true → x.er.size ≤ 40 → x.In w w.heap.size → Row w w.heap.size va (strVals ss) → HasFormulaWords w → Calls Tryz.prog 33 #[.slice va ss.length vca, x.val] w (GaveB (.string (x.er.textT ss)) w) := by
  apply Ft.ind
  intro x ih w hf hsz hin hrow hwt
  obtain ⟨i0, hi, hz0, hz1, hz2⟩ := info_parts strInfoT
  have hnf := node_fields hf
  have hnp := node_parts hf
  have hse := x.size_er
  have hln := Fm.length_sizes (x.args.map Ft.er)
  rw [List.length_map] at hln
  have hal : x.args.length ≤ 40 := by omega
  have hps : ∀ y ∈ x.args, y.er.size ≤ 40 := fun y hy => by
    have := Fm.size_mem (x.args.map Ft.er) _ (List.mem_map.2 ⟨y, hy, rfl⟩)
    omega
  have hts : ∀ s ∈ x.args.map (fun y => y.er.textT ss), s.size ≤ 360 := fun s hs => by
    obtain ⟨y, hy, rfl⟩ := List.mem_map.1 hs
    have h1 := Fm.text_size hgood _ (hnp y hy)
    have h2 := hps y hy
    omega
  have HTS := Lib.hid hts
  have HT := Lib.hid (x.textT_er ss)
  have HNF := Lib.hid hnf
  have HGD := Lib.hid hgood
  have hb0 := (Below.refl w.heap.size w).alloc (Nat.le_refl _) (.cells #[.int .i64 x.kd, .int .i64 x.k, .int .i64 x.u, .int .i64 x.v, .slice x.a x.args.length x.cap] 27)
  obtain ⟨W0, hW0⟩ : ∃ W, w.alloc (.cells #[.int .i64 x.kd, .int .i64 x.k, .int .i64 x.u, .int .i64 x.v, .slice x.a x.args.length x.cap] 27) = W := ⟨_, rfl⟩
  have hx0 : BoxL W0 w.heap.size x.cells := by rw [← hW0]; exact BoxL.new w x.cells _
  rw [hW0] at hb0
  have HW0 := Lib.hid hW0
  have KK := Lib.hid (fun (W : World) (h : Below W0.heap.size W0 W) => show BoxL W w.heap.size x.cells ∧ Below w.heap.size w W ∧ x.In W W.heap.size ∧ Row W W.heap.size va (strVals ss) ∧ HasFormulaWords W from ⟨hx0.below h, hb0.trans (h.mono hb0.size), hin.to (hb0.trans (h.mono hb0.size)), (hrow.below (hb0.trans (h.mono hb0.size))).grow (hb0.trans (h.mono hb0.size)).size, hwt.keeps (hb0.trans (h.mono hb0.size))⟩)
  have IH := Lib.hid (fun (y : Ft) (hy : y ∈ x.args) (W : World) (h : Below W0.heap.size W0 W) => ih y hy W (hnp y hy) (hps y hy) ((KK.out W h).2.2.1.part hy) (KK.out W h).2.2.2.1 (KK.out W h).2.2.2.2)
  have hs0 : w.heap.size < W0.heap.size := hx0.lt
  obtain ⟨txt, htxt⟩ : ∃ f : Ft → ByteArray, (fun y : Ft => y.er.textT ss) = f := ⟨_, rfl⟩
  have htx : ∀ y, y.er.textT ss = txt y := fun y => by rw [← htxt]
  have HTX := Lib.hid htx
  rw [htxt] at HT HTS
  have a4 := hx0.c 4 _ rfl
  have hnil := World.ownsRow_nil W0 W0.heap.size 9 1
  clear hW0 ih hf hsz hin hrow hnf hnp hse hln hps hts hx0 hb0 htxt htx hgood hwt
  go_enter Tryz.func33, Tryz.ntmps33
  go_wp2_with fail
  rw [HW0.out]
  clear HW0
  go_loopw [5, 11] (fun v i wr => ∃ k : Nat, k ≤ x.args.length ∧ i = .int .i64 k ∧ wr.ownsRow W0.heap.size 9 1 v k (strVals ((x.args.take k).map txt)) ∧ Below W0.heap.size W0 wr) (fun _ i _ => x.args.length - (intOf i).toNat)
  case atStart => exact ⟨0, Nat.zero_le _, rfl, hnil, Below.refl _ _⟩
  case round =>
    clear a4 hnil
    obtain ⟨k, hk, rfl, hown, hb⟩ := hrel
    obtain ⟨hbx, hbw, hinr, hrw, hwr⟩ := KK.out _ hb
    have a4 := hbx.c 4 _ rfl
    by_cases hlt : k < x.args.length
    · obtain ⟨rb, ro, hra, hrb, hE⟩ := hinr.row.node k hlt
      have hI := fun (W : World) h => IH.out x.args[k] (List.getElem_mem hlt) W h
      have hnx := take_next x.args k hlt
      generalize x.args[k] = y at *
      have hnx' : (x.args.take (k + 1)).map txt = (x.args.take k).map txt ++ [txt y] := by rw [hnx, List.map_append]; rfl
      simp only [HTX.out y] at hI
      have HNX := Lib.hid hnx'
      have HI := Lib.hid hI
      have HO := Lib.hid hown
      obtain ⟨d0, d1, d2, d3, d4⟩ := hE
      have hra' := Lib.hid hra
      have hal2 := (Below.refl wr.heap.size wr).alloc (Nat.le_refl _) (.cells #[.int .i64 y.kd, .int .i64 y.k, .int .i64 y.u, .int .i64 y.v, .slice y.a y.args.length y.cap] 27)
      have hB0 := hb.trans (hal2.mono hb.size)
      clear a4 hnx hnx' hI hown hbx hbw hinr hrw hwr
      go_wp2_with fail
      refine (HI.out _ hB0).mono ?_
      rintro e w1 ⟨rfl, hb1⟩
      have hb01 := hal2.trans (hb1.mono hal2.size)
      have HO1 := Lib.hid (own_keeps HO.out hb01)
      have hB1 := hb.trans (hb01.mono hb.size)
      clear d0 d1 d2 d3 d4 hb1 hal2 hB0 hb01
      go_wp2_with (at_builtin; refine wpList_append_own_at _ rfl (.tmp 15) (.tmp 19) 24 rfl W0.heap.size 9 i0 (.string ⟨#[]⟩) 1 16 Tryz.underlying24 hi hz0 hz1 hz2 rfl (by decide) _ k _ rfl (HO1.out.alloc _) ⟨w1.heap.size, 0, none⟩ 1 1 [.string (txt y)] rfl rfl (oneCell_at _) (oneCell_str _) (by unfold maxLen; omega) (by omega) (by have := hB1.size; simp; omega) ?_; intro v6 w6 hown6 hg6 _ hloc6)
      have hb6 := below_grown (hB1.alloc hB1.size _) hg6 (by have := hB1.size; simp; omega) (fun q hq => (HO1.out.lt q hq).1)
      clear hg6 hloc6
      go_wp2_with fail
      go_roundw
      case rel =>
        repeat apply Exists.intro
        refine ⟨⟨k + 1, by omega, by go_num, by rw [HNX.out, strVals_snoc]; exact hown6, hb6⟩, ?_⟩
        rw [hra'.out]
        rfl
      case measure => simp [intOf]; omega
    · obtain rfl : k = x.args.length := by omega
      rw [List.take_length] at hown
      obtain ⟨va', vc', rfl, hvc⟩ := own_formT hown
      obtain ⟨hu1, hv1, hk0, hk1, hu, hv, har⟩ := HNF.out
      have hkinds := kind_range har
      have HKD := Lib.hid (And.intro hk1 (And.intro hk0 (And.intro hu1 hv1)))
      obtain ⟨P, hP⟩ : ∃ P, x.args.map txt = P := ⟨_, rfl⟩
      have hPl : P.length = x.args.length := by rw [← hP, List.length_map]
      rw [hP] at HTS HT hown
      have htot := total_le_part HTS.out
      have HJ := Lib.hid (fun (W : World) (h : Below wr.heap.size wr W) (sep : ByteArray) (hsep : sep.size ≤ 1) => show Calls Tryz.prog 63 #[.slice va' x.args.length vc', .string sep] W (JoinedEnd (jn P sep) W) by
        have h1 := implJoin va' vc' P sep W (by omega) (by omega) (by
          have h2 : P.length * sep.size ≤ P.length * 1 := Nat.mul_le_mul_left _ hsep
          omega) (((Row.owned hown).below h).grow h.size)
        rw [hPl] at h1
        exact h1)
      have HUV := Lib.hid (And.intro hu hv)
      have HPL := Lib.hid hPl
      have HBW := Lib.hid hbw
      have HRW := Lib.hid hrw
      have HWR := Lib.hid hwr
      have HX := Lib.hid hbx
      have a0 := hbx.c 0 _ rfl
      clear hown hvc hu1 hv1 hk0 hk1 hu hv hlt hP hPl htot hbx hbw hinr hrw a4 hwr
      have ta8 := ta_and
      have ta9 := ta_or
      rcases hkinds with e | e | e | e | e | e | e | e | e | e | e | e
      all_goals
        rw [e] at HT a0 har
      · have hn : x.args.length = 0 := by
          have : arityF 1 = 0 := rfl
          omega
        clear har
        have hPe : P = [] := List.eq_nil_of_length_eq_zero (by rw [HPL.out, hn])
        subst hPe
        have HN := Lib.hid hn
        clear hn
        have b1 := HX.out.c 1 _ rfl
        have b2 := HX.out.c 2 _ rfl
        have b3 := HX.out.c 3 _ rfl
        have b4 := HX.out.c 4 _ rfl
        obtain ⟨Hd, hHd⟩ : ∃ h, headT ss 1 x.k x.u x.v = h := ⟨_, rfl⟩
        have HH := Lib.hid (implHead_1 ss va vca x.k x.u x.v x.a x.args.length x.cap wr HWR.out)
        rw [hHd] at HH
        have hHs : Hd.size ≤ 20 := by
          rw [← hHd, headT_1]
          have h1 := letterT_size x.u
          have h2 := letterT_size x.v
          have b1 : (⟨#[111, 110, 32]⟩ : ByteArray).size = 3 := rfl
          have b2 : (⟨#[102, 114, 111, 109, 32]⟩ : ByteArray).size = 5 := rfl
          have b3 : (⟨#[58]⟩ : ByteArray).size = 1 := rfl
          have b4 : (⟨#[115, 104, 97, 114, 101, 100, 58]⟩ : ByteArray).size = 7 := rfl
          have b5 : (⟨#[110, 101, 120, 116, 58]⟩ : ByteArray).size = 5 := rfl
          have b6 : (⟨#[115, 97, 109, 101, 58]⟩ : ByteArray).size = 5 := rfl
          have b7 : (⟨#[112, 97, 116, 104, 58]⟩ : ByteArray).size = 5 := rfl
          have b8 : (⟨#[33]⟩ : ByteArray).size = 1 := rfl
          have b13 : (⟨#[115, 111, 109, 101, 32]⟩ : ByteArray).size = 5 := rfl
          have b14 : (⟨#[97, 108, 108, 32]⟩ : ByteArray).size = 4 := rfl
          have b15 : (⟨#[46]⟩ : ByteArray).size = 1 := rfl
          have b16 : (⟨#[116, 114, 117, 101]⟩ : ByteArray).size = 4 := rfl
          first | omega | (simp only [ByteArray.size_append]; omega)
        have HTT := Lib.hid (show x.er.textT ss = Hd ++ (⟨#[]⟩ : ByteArray) by
          rw [HT.out, ← hHd, headT_1, app_empty]
          simp only [nodeT, Int.reduceEq, if_true, if_false])
        have HJJ := Lib.hid (show ∀ W, Below wr.heap.size wr W → Calls Tryz.prog 63 #[.slice va' x.args.length vc', .string ⟨#[]⟩] W (GaveB (.string (⟨#[]⟩ : ByteArray)) W) from fun W h => (HJ.out W h ⟨#[]⟩ (Nat.zero_le _)).mono fun e w' g => ⟨by rw [g.1]; rfl, g.2⟩)
        have bz0 : (⟨#[]⟩ : ByteArray).size = 0 := rfl
        have ad0 := (fun W : World => run_string_add_sum (P := Tryz.prog) W Hd (⟨#[]⟩ : ByteArray) (by omega))
        clear bz0 hHd HKD
        go_wp2_with fail
        refine (implFormOf _ _).mono ?_
        rintro e w1 ⟨rfl, rfl⟩
        simp only [formV, formT_1]
        go_wp2_with fail
        refine HH.out.mono ?_
        rintro e w2 ⟨rfl, hb2⟩
        clear a0 b1 b2 b3 b4
        go_wp2_with fail
        refine (HJJ.out _ hb2).mono ?_
        rintro e w3 ⟨rfl, hb3⟩
        have hB3 := (HBW.out.trans (hb2.mono HBW.out.size)).trans (hb3.mono (HBW.out.trans (hb2.mono HBW.out.size)).size)
        go_wp2_with fail
        go_ret
        exact ⟨by first | (rw [HTT.out]; with_reducible rfl) | (rw [HTT.out, app_empty]; with_reducible rfl) | (rw [HTT.out]; simp [Array.getD]; done), hB3⟩
      · have hn : x.args.length = 0 := by
          have : arityF 2 = 0 := rfl
          omega
        clear har
        have hPe : P = [] := List.eq_nil_of_length_eq_zero (by rw [HPL.out, hn])
        subst hPe
        have HN := Lib.hid hn
        clear hn
        have b1 := HX.out.c 1 _ rfl
        have b2 := HX.out.c 2 _ rfl
        have b3 := HX.out.c 3 _ rfl
        have b4 := HX.out.c 4 _ rfl
        obtain ⟨Hd, hHd⟩ : ∃ h, headT ss 2 x.k x.u x.v = h := ⟨_, rfl⟩
        have HH := Lib.hid (implHead_2 ss va vca x.k x.u x.v x.a x.args.length x.cap wr HWR.out (HKD.out.1 (.inl e)) HGD.out HRW.out HUV.out.1)
        rw [hHd] at HH
        have hnz : (nameAt ss x.k).size ≤ 2 := nameAt_size HGD.out _
        have hHs : Hd.size ≤ 20 := by
          rw [← hHd, headT_2]
          have h1 := letterT_size x.u
          have h2 := letterT_size x.v
          have b1 : (⟨#[111, 110, 32]⟩ : ByteArray).size = 3 := rfl
          have b2 : (⟨#[102, 114, 111, 109, 32]⟩ : ByteArray).size = 5 := rfl
          have b3 : (⟨#[58]⟩ : ByteArray).size = 1 := rfl
          have b4 : (⟨#[115, 104, 97, 114, 101, 100, 58]⟩ : ByteArray).size = 7 := rfl
          have b5 : (⟨#[110, 101, 120, 116, 58]⟩ : ByteArray).size = 5 := rfl
          have b6 : (⟨#[115, 97, 109, 101, 58]⟩ : ByteArray).size = 5 := rfl
          have b7 : (⟨#[112, 97, 116, 104, 58]⟩ : ByteArray).size = 5 := rfl
          have b8 : (⟨#[33]⟩ : ByteArray).size = 1 := rfl
          have b13 : (⟨#[115, 111, 109, 101, 32]⟩ : ByteArray).size = 5 := rfl
          have b14 : (⟨#[97, 108, 108, 32]⟩ : ByteArray).size = 4 := rfl
          have b15 : (⟨#[46]⟩ : ByteArray).size = 1 := rfl
          have b16 : (⟨#[116, 114, 117, 101]⟩ : ByteArray).size = 4 := rfl
          first | omega | (simp only [ByteArray.size_append]; omega)
        have HTT := Lib.hid (show x.er.textT ss = Hd ++ (⟨#[]⟩ : ByteArray) by
          rw [HT.out, ← hHd, headT_2, app_empty]
          simp only [nodeT, Int.reduceEq, if_true, if_false])
        have HJJ := Lib.hid (show ∀ W, Below wr.heap.size wr W → Calls Tryz.prog 63 #[.slice va' x.args.length vc', .string ⟨#[]⟩] W (GaveB (.string (⟨#[]⟩ : ByteArray)) W) from fun W h => (HJ.out W h ⟨#[]⟩ (Nat.zero_le _)).mono fun e w' g => ⟨by rw [g.1]; rfl, g.2⟩)
        have bz0 : (⟨#[]⟩ : ByteArray).size = 0 := rfl
        have ad0 := (fun W : World => run_string_add_sum (P := Tryz.prog) W Hd (⟨#[]⟩ : ByteArray) (by omega))
        clear bz0 hHd HKD
        go_wp2_with fail
        refine (implFormOf _ _).mono ?_
        rintro e w1 ⟨rfl, rfl⟩
        simp only [formV, formT_2]
        go_wp2_with fail
        refine HH.out.mono ?_
        rintro e w2 ⟨rfl, hb2⟩
        clear a0 b1 b2 b3 b4
        go_wp2_with fail
        refine (HJJ.out _ hb2).mono ?_
        rintro e w3 ⟨rfl, hb3⟩
        have hB3 := (HBW.out.trans (hb2.mono HBW.out.size)).trans (hb3.mono (HBW.out.trans (hb2.mono HBW.out.size)).size)
        go_wp2_with fail
        go_ret
        exact ⟨by first | (rw [HTT.out]; with_reducible rfl) | (rw [HTT.out, app_empty]; with_reducible rfl) | (rw [HTT.out]; simp [Array.getD]; done), hB3⟩
      · have hn : x.args.length = 0 := by
          have : arityF 3 = 0 := rfl
          omega
        clear har
        have hPe : P = [] := List.eq_nil_of_length_eq_zero (by rw [HPL.out, hn])
        subst hPe
        have HN := Lib.hid hn
        clear hn
        have b1 := HX.out.c 1 _ rfl
        have b2 := HX.out.c 2 _ rfl
        have b3 := HX.out.c 3 _ rfl
        have b4 := HX.out.c 4 _ rfl
        obtain ⟨Hd, hHd⟩ : ∃ h, headT ss 3 x.k x.u x.v = h := ⟨_, rfl⟩
        have HH := Lib.hid (implHead_3 ss va vca x.k x.u x.v x.a x.args.length x.cap wr HWR.out (HKD.out.1 (.inr e)) HGD.out HRW.out HUV.out.1)
        rw [hHd] at HH
        have hnz : (nameAt ss x.k).size ≤ 2 := nameAt_size HGD.out _
        have hHs : Hd.size ≤ 20 := by
          rw [← hHd, headT_3]
          have h1 := letterT_size x.u
          have h2 := letterT_size x.v
          have b1 : (⟨#[111, 110, 32]⟩ : ByteArray).size = 3 := rfl
          have b2 : (⟨#[102, 114, 111, 109, 32]⟩ : ByteArray).size = 5 := rfl
          have b3 : (⟨#[58]⟩ : ByteArray).size = 1 := rfl
          have b4 : (⟨#[115, 104, 97, 114, 101, 100, 58]⟩ : ByteArray).size = 7 := rfl
          have b5 : (⟨#[110, 101, 120, 116, 58]⟩ : ByteArray).size = 5 := rfl
          have b6 : (⟨#[115, 97, 109, 101, 58]⟩ : ByteArray).size = 5 := rfl
          have b7 : (⟨#[112, 97, 116, 104, 58]⟩ : ByteArray).size = 5 := rfl
          have b8 : (⟨#[33]⟩ : ByteArray).size = 1 := rfl
          have b13 : (⟨#[115, 111, 109, 101, 32]⟩ : ByteArray).size = 5 := rfl
          have b14 : (⟨#[97, 108, 108, 32]⟩ : ByteArray).size = 4 := rfl
          have b15 : (⟨#[46]⟩ : ByteArray).size = 1 := rfl
          have b16 : (⟨#[116, 114, 117, 101]⟩ : ByteArray).size = 4 := rfl
          first | omega | (simp only [ByteArray.size_append]; omega)
        have HTT := Lib.hid (show x.er.textT ss = Hd ++ (⟨#[]⟩ : ByteArray) by
          rw [HT.out, ← hHd, headT_3, app_empty]
          simp only [nodeT, Int.reduceEq, if_true, if_false])
        have HJJ := Lib.hid (show ∀ W, Below wr.heap.size wr W → Calls Tryz.prog 63 #[.slice va' x.args.length vc', .string ⟨#[]⟩] W (GaveB (.string (⟨#[]⟩ : ByteArray)) W) from fun W h => (HJ.out W h ⟨#[]⟩ (Nat.zero_le _)).mono fun e w' g => ⟨by rw [g.1]; rfl, g.2⟩)
        have bz0 : (⟨#[]⟩ : ByteArray).size = 0 := rfl
        have ad0 := (fun W : World => run_string_add_sum (P := Tryz.prog) W Hd (⟨#[]⟩ : ByteArray) (by omega))
        clear bz0 hHd HKD
        go_wp2_with fail
        refine (implFormOf _ _).mono ?_
        rintro e w1 ⟨rfl, rfl⟩
        simp only [formV, formT_3]
        go_wp2_with fail
        refine HH.out.mono ?_
        rintro e w2 ⟨rfl, hb2⟩
        clear a0 b1 b2 b3 b4
        go_wp2_with fail
        refine (HJJ.out _ hb2).mono ?_
        rintro e w3 ⟨rfl, hb3⟩
        have hB3 := (HBW.out.trans (hb2.mono HBW.out.size)).trans (hb3.mono (HBW.out.trans (hb2.mono HBW.out.size)).size)
        go_wp2_with fail
        go_ret
        exact ⟨by first | (rw [HTT.out]; with_reducible rfl) | (rw [HTT.out, app_empty]; with_reducible rfl) | (rw [HTT.out]; simp [Array.getD]; done), hB3⟩
      · have hn : x.args.length = 0 := by
          have : arityF 4 = 0 := rfl
          omega
        clear har
        have hPe : P = [] := List.eq_nil_of_length_eq_zero (by rw [HPL.out, hn])
        subst hPe
        have HN := Lib.hid hn
        clear hn
        have b1 := HX.out.c 1 _ rfl
        have b2 := HX.out.c 2 _ rfl
        have b3 := HX.out.c 3 _ rfl
        have b4 := HX.out.c 4 _ rfl
        obtain ⟨Hd, hHd⟩ : ∃ h, headT ss 4 x.k x.u x.v = h := ⟨_, rfl⟩
        have HH := Lib.hid (implHead_4 ss va vca x.k x.u x.v x.a x.args.length x.cap wr HWR.out HUV.out.1)
        rw [hHd] at HH
        have hHs : Hd.size ≤ 20 := by
          rw [← hHd, headT_4]
          have h1 := letterT_size x.u
          have h2 := letterT_size x.v
          have b1 : (⟨#[111, 110, 32]⟩ : ByteArray).size = 3 := rfl
          have b2 : (⟨#[102, 114, 111, 109, 32]⟩ : ByteArray).size = 5 := rfl
          have b3 : (⟨#[58]⟩ : ByteArray).size = 1 := rfl
          have b4 : (⟨#[115, 104, 97, 114, 101, 100, 58]⟩ : ByteArray).size = 7 := rfl
          have b5 : (⟨#[110, 101, 120, 116, 58]⟩ : ByteArray).size = 5 := rfl
          have b6 : (⟨#[115, 97, 109, 101, 58]⟩ : ByteArray).size = 5 := rfl
          have b7 : (⟨#[112, 97, 116, 104, 58]⟩ : ByteArray).size = 5 := rfl
          have b8 : (⟨#[33]⟩ : ByteArray).size = 1 := rfl
          have b13 : (⟨#[115, 111, 109, 101, 32]⟩ : ByteArray).size = 5 := rfl
          have b14 : (⟨#[97, 108, 108, 32]⟩ : ByteArray).size = 4 := rfl
          have b15 : (⟨#[46]⟩ : ByteArray).size = 1 := rfl
          have b16 : (⟨#[116, 114, 117, 101]⟩ : ByteArray).size = 4 := rfl
          first | omega | (simp only [ByteArray.size_append]; omega)
        have HTT := Lib.hid (show x.er.textT ss = Hd ++ (⟨#[]⟩ : ByteArray) by
          rw [HT.out, ← hHd, headT_4, app_empty]
          simp only [nodeT, Int.reduceEq, if_true, if_false])
        have HJJ := Lib.hid (show ∀ W, Below wr.heap.size wr W → Calls Tryz.prog 63 #[.slice va' x.args.length vc', .string ⟨#[]⟩] W (GaveB (.string (⟨#[]⟩ : ByteArray)) W) from fun W h => (HJ.out W h ⟨#[]⟩ (Nat.zero_le _)).mono fun e w' g => ⟨by rw [g.1]; rfl, g.2⟩)
        have bz0 : (⟨#[]⟩ : ByteArray).size = 0 := rfl
        have ad0 := (fun W : World => run_string_add_sum (P := Tryz.prog) W Hd (⟨#[]⟩ : ByteArray) (by omega))
        clear bz0 hHd HKD
        go_wp2_with fail
        refine (implFormOf _ _).mono ?_
        rintro e w1 ⟨rfl, rfl⟩
        simp only [formV, formT_4]
        go_wp2_with fail
        refine HH.out.mono ?_
        rintro e w2 ⟨rfl, hb2⟩
        clear a0 b1 b2 b3 b4
        go_wp2_with fail
        refine (HJJ.out _ hb2).mono ?_
        rintro e w3 ⟨rfl, hb3⟩
        have hB3 := (HBW.out.trans (hb2.mono HBW.out.size)).trans (hb3.mono (HBW.out.trans (hb2.mono HBW.out.size)).size)
        go_wp2_with fail
        go_ret
        exact ⟨by first | (rw [HTT.out]; with_reducible rfl) | (rw [HTT.out, app_empty]; with_reducible rfl) | (rw [HTT.out]; simp [Array.getD]; done), hB3⟩
      · have hn : x.args.length = 0 := by
          have : arityF 5 = 0 := rfl
          omega
        clear har
        have hPe : P = [] := List.eq_nil_of_length_eq_zero (by rw [HPL.out, hn])
        subst hPe
        have HN := Lib.hid hn
        clear hn
        have b1 := HX.out.c 1 _ rfl
        have b2 := HX.out.c 2 _ rfl
        have b3 := HX.out.c 3 _ rfl
        have b4 := HX.out.c 4 _ rfl
        obtain ⟨Hd, hHd⟩ : ∃ h, headT ss 5 x.k x.u x.v = h := ⟨_, rfl⟩
        have HH := Lib.hid (implHead_5 ss va vca x.k x.u x.v x.a x.args.length x.cap wr HWR.out HUV.out.1 HUV.out.2)
        rw [hHd] at HH
        have hHs : Hd.size ≤ 20 := by
          rw [← hHd, headT_5]
          have h1 := letterT_size x.u
          have h2 := letterT_size x.v
          have b1 : (⟨#[111, 110, 32]⟩ : ByteArray).size = 3 := rfl
          have b2 : (⟨#[102, 114, 111, 109, 32]⟩ : ByteArray).size = 5 := rfl
          have b3 : (⟨#[58]⟩ : ByteArray).size = 1 := rfl
          have b4 : (⟨#[115, 104, 97, 114, 101, 100, 58]⟩ : ByteArray).size = 7 := rfl
          have b5 : (⟨#[110, 101, 120, 116, 58]⟩ : ByteArray).size = 5 := rfl
          have b6 : (⟨#[115, 97, 109, 101, 58]⟩ : ByteArray).size = 5 := rfl
          have b7 : (⟨#[112, 97, 116, 104, 58]⟩ : ByteArray).size = 5 := rfl
          have b8 : (⟨#[33]⟩ : ByteArray).size = 1 := rfl
          have b13 : (⟨#[115, 111, 109, 101, 32]⟩ : ByteArray).size = 5 := rfl
          have b14 : (⟨#[97, 108, 108, 32]⟩ : ByteArray).size = 4 := rfl
          have b15 : (⟨#[46]⟩ : ByteArray).size = 1 := rfl
          have b16 : (⟨#[116, 114, 117, 101]⟩ : ByteArray).size = 4 := rfl
          first | omega | (simp only [ByteArray.size_append]; omega)
        have HTT := Lib.hid (show x.er.textT ss = Hd ++ (⟨#[]⟩ : ByteArray) by
          rw [HT.out, ← hHd, headT_5, app_empty]
          simp only [nodeT, Int.reduceEq, if_true, if_false])
        have HJJ := Lib.hid (show ∀ W, Below wr.heap.size wr W → Calls Tryz.prog 63 #[.slice va' x.args.length vc', .string ⟨#[]⟩] W (GaveB (.string (⟨#[]⟩ : ByteArray)) W) from fun W h => (HJ.out W h ⟨#[]⟩ (Nat.zero_le _)).mono fun e w' g => ⟨by rw [g.1]; rfl, g.2⟩)
        have bz0 : (⟨#[]⟩ : ByteArray).size = 0 := rfl
        have ad0 := (fun W : World => run_string_add_sum (P := Tryz.prog) W Hd (⟨#[]⟩ : ByteArray) (by omega))
        clear bz0 hHd HKD
        go_wp2_with fail
        refine (implFormOf _ _).mono ?_
        rintro e w1 ⟨rfl, rfl⟩
        simp only [formV, formT_5]
        go_wp2_with fail
        refine HH.out.mono ?_
        rintro e w2 ⟨rfl, hb2⟩
        clear a0 b1 b2 b3 b4
        go_wp2_with fail
        refine (HJJ.out _ hb2).mono ?_
        rintro e w3 ⟨rfl, hb3⟩
        have hB3 := (HBW.out.trans (hb2.mono HBW.out.size)).trans (hb3.mono (HBW.out.trans (hb2.mono HBW.out.size)).size)
        go_wp2_with fail
        go_ret
        exact ⟨by first | (rw [HTT.out]; with_reducible rfl) | (rw [HTT.out, app_empty]; with_reducible rfl) | (rw [HTT.out]; simp [Array.getD]; done), hB3⟩
      · have hn : x.args.length = 0 := by
          have : arityF 6 = 0 := rfl
          omega
        clear har
        have hPe : P = [] := List.eq_nil_of_length_eq_zero (by rw [HPL.out, hn])
        subst hPe
        have HN := Lib.hid hn
        clear hn
        have b1 := HX.out.c 1 _ rfl
        have b2 := HX.out.c 2 _ rfl
        have b3 := HX.out.c 3 _ rfl
        have b4 := HX.out.c 4 _ rfl
        obtain ⟨Hd, hHd⟩ : ∃ h, headT ss 6 x.k x.u x.v = h := ⟨_, rfl⟩
        have HH := Lib.hid (implHead_6 ss va vca x.k x.u x.v x.a x.args.length x.cap wr HWR.out HUV.out.1 HUV.out.2)
        rw [hHd] at HH
        have hHs : Hd.size ≤ 20 := by
          rw [← hHd, headT_6]
          have h1 := letterT_size x.u
          have h2 := letterT_size x.v
          have b1 : (⟨#[111, 110, 32]⟩ : ByteArray).size = 3 := rfl
          have b2 : (⟨#[102, 114, 111, 109, 32]⟩ : ByteArray).size = 5 := rfl
          have b3 : (⟨#[58]⟩ : ByteArray).size = 1 := rfl
          have b4 : (⟨#[115, 104, 97, 114, 101, 100, 58]⟩ : ByteArray).size = 7 := rfl
          have b5 : (⟨#[110, 101, 120, 116, 58]⟩ : ByteArray).size = 5 := rfl
          have b6 : (⟨#[115, 97, 109, 101, 58]⟩ : ByteArray).size = 5 := rfl
          have b7 : (⟨#[112, 97, 116, 104, 58]⟩ : ByteArray).size = 5 := rfl
          have b8 : (⟨#[33]⟩ : ByteArray).size = 1 := rfl
          have b13 : (⟨#[115, 111, 109, 101, 32]⟩ : ByteArray).size = 5 := rfl
          have b14 : (⟨#[97, 108, 108, 32]⟩ : ByteArray).size = 4 := rfl
          have b15 : (⟨#[46]⟩ : ByteArray).size = 1 := rfl
          have b16 : (⟨#[116, 114, 117, 101]⟩ : ByteArray).size = 4 := rfl
          first | omega | (simp only [ByteArray.size_append]; omega)
        have HTT := Lib.hid (show x.er.textT ss = Hd ++ (⟨#[]⟩ : ByteArray) by
          rw [HT.out, ← hHd, headT_6, app_empty]
          simp only [nodeT, Int.reduceEq, if_true, if_false])
        have HJJ := Lib.hid (show ∀ W, Below wr.heap.size wr W → Calls Tryz.prog 63 #[.slice va' x.args.length vc', .string ⟨#[]⟩] W (GaveB (.string (⟨#[]⟩ : ByteArray)) W) from fun W h => (HJ.out W h ⟨#[]⟩ (Nat.zero_le _)).mono fun e w' g => ⟨by rw [g.1]; rfl, g.2⟩)
        have bz0 : (⟨#[]⟩ : ByteArray).size = 0 := rfl
        have ad0 := (fun W : World => run_string_add_sum (P := Tryz.prog) W Hd (⟨#[]⟩ : ByteArray) (by omega))
        clear bz0 hHd HKD
        go_wp2_with fail
        refine (implFormOf _ _).mono ?_
        rintro e w1 ⟨rfl, rfl⟩
        simp only [formV, formT_6]
        go_wp2_with fail
        refine HH.out.mono ?_
        rintro e w2 ⟨rfl, hb2⟩
        clear a0 b1 b2 b3 b4
        go_wp2_with fail
        refine (HJJ.out _ hb2).mono ?_
        rintro e w3 ⟨rfl, hb3⟩
        have hB3 := (HBW.out.trans (hb2.mono HBW.out.size)).trans (hb3.mono (HBW.out.trans (hb2.mono HBW.out.size)).size)
        go_wp2_with fail
        go_ret
        exact ⟨by first | (rw [HTT.out]; with_reducible rfl) | (rw [HTT.out, app_empty]; with_reducible rfl) | (rw [HTT.out]; simp [Array.getD]; done), hB3⟩
      · have hn : x.args.length = 0 := by
          have : arityF 7 = 0 := rfl
          omega
        clear har
        have hPe : P = [] := List.eq_nil_of_length_eq_zero (by rw [HPL.out, hn])
        subst hPe
        have HN := Lib.hid hn
        clear hn
        have b1 := HX.out.c 1 _ rfl
        have b2 := HX.out.c 2 _ rfl
        have b3 := HX.out.c 3 _ rfl
        have b4 := HX.out.c 4 _ rfl
        obtain ⟨Hd, hHd⟩ : ∃ h, headT ss 7 x.k x.u x.v = h := ⟨_, rfl⟩
        have HH := Lib.hid (implHead_7 ss va vca x.k x.u x.v x.a x.args.length x.cap wr HWR.out HUV.out.1 HUV.out.2)
        rw [hHd] at HH
        have hHs : Hd.size ≤ 20 := by
          rw [← hHd, headT_7]
          have h1 := letterT_size x.u
          have h2 := letterT_size x.v
          have b1 : (⟨#[111, 110, 32]⟩ : ByteArray).size = 3 := rfl
          have b2 : (⟨#[102, 114, 111, 109, 32]⟩ : ByteArray).size = 5 := rfl
          have b3 : (⟨#[58]⟩ : ByteArray).size = 1 := rfl
          have b4 : (⟨#[115, 104, 97, 114, 101, 100, 58]⟩ : ByteArray).size = 7 := rfl
          have b5 : (⟨#[110, 101, 120, 116, 58]⟩ : ByteArray).size = 5 := rfl
          have b6 : (⟨#[115, 97, 109, 101, 58]⟩ : ByteArray).size = 5 := rfl
          have b7 : (⟨#[112, 97, 116, 104, 58]⟩ : ByteArray).size = 5 := rfl
          have b8 : (⟨#[33]⟩ : ByteArray).size = 1 := rfl
          have b13 : (⟨#[115, 111, 109, 101, 32]⟩ : ByteArray).size = 5 := rfl
          have b14 : (⟨#[97, 108, 108, 32]⟩ : ByteArray).size = 4 := rfl
          have b15 : (⟨#[46]⟩ : ByteArray).size = 1 := rfl
          have b16 : (⟨#[116, 114, 117, 101]⟩ : ByteArray).size = 4 := rfl
          first | omega | (simp only [ByteArray.size_append]; omega)
        have HTT := Lib.hid (show x.er.textT ss = Hd ++ (⟨#[]⟩ : ByteArray) by
          rw [HT.out, ← hHd, headT_7, app_empty]
          simp only [nodeT, Int.reduceEq, if_true, if_false])
        have HJJ := Lib.hid (show ∀ W, Below wr.heap.size wr W → Calls Tryz.prog 63 #[.slice va' x.args.length vc', .string ⟨#[]⟩] W (GaveB (.string (⟨#[]⟩ : ByteArray)) W) from fun W h => (HJ.out W h ⟨#[]⟩ (Nat.zero_le _)).mono fun e w' g => ⟨by rw [g.1]; rfl, g.2⟩)
        have bz0 : (⟨#[]⟩ : ByteArray).size = 0 := rfl
        have ad0 := (fun W : World => run_string_add_sum (P := Tryz.prog) W Hd (⟨#[]⟩ : ByteArray) (by omega))
        clear bz0 hHd HKD
        go_wp2_with fail
        refine (implFormOf _ _).mono ?_
        rintro e w1 ⟨rfl, rfl⟩
        simp only [formV, formT_7]
        go_wp2_with fail
        refine HH.out.mono ?_
        rintro e w2 ⟨rfl, hb2⟩
        clear a0 b1 b2 b3 b4
        go_wp2_with fail
        refine (HJJ.out _ hb2).mono ?_
        rintro e w3 ⟨rfl, hb3⟩
        have hB3 := (HBW.out.trans (hb2.mono HBW.out.size)).trans (hb3.mono (HBW.out.trans (hb2.mono HBW.out.size)).size)
        go_wp2_with fail
        go_ret
        exact ⟨by first | (rw [HTT.out]; with_reducible rfl) | (rw [HTT.out, app_empty]; with_reducible rfl) | (rw [HTT.out]; simp [Array.getD]; done), hB3⟩
      · have hn : x.args.length = 1 := by
          have : arityF 8 = 1 := rfl
          omega
        clear har
        obtain ⟨p0, rfl⟩ : ∃ p0, P = [p0] := by
          have h := HPL.out
          rw [hn] at h
          match P, h with
          | [p0], _ => exact ⟨p0, rfl⟩
        have hs0 : p0.size ≤ 360 := HTS.out p0 (by simp)
        have HN := Lib.hid hn
        clear hn
        have b1 := HX.out.c 1 _ rfl
        have b2 := HX.out.c 2 _ rfl
        have b3 := HX.out.c 3 _ rfl
        have b4 := HX.out.c 4 _ rfl
        obtain ⟨Hd, hHd⟩ : ∃ h, headT ss 8 x.k x.u x.v = h := ⟨_, rfl⟩
        have HH := Lib.hid (implHead_8 ss va vca x.k x.u x.v x.a x.args.length x.cap wr HWR.out)
        rw [hHd] at HH
        have hHs : Hd.size ≤ 20 := by
          rw [← hHd, headT_8]
          have h1 := letterT_size x.u
          have h2 := letterT_size x.v
          have b1 : (⟨#[111, 110, 32]⟩ : ByteArray).size = 3 := rfl
          have b2 : (⟨#[102, 114, 111, 109, 32]⟩ : ByteArray).size = 5 := rfl
          have b3 : (⟨#[58]⟩ : ByteArray).size = 1 := rfl
          have b4 : (⟨#[115, 104, 97, 114, 101, 100, 58]⟩ : ByteArray).size = 7 := rfl
          have b5 : (⟨#[110, 101, 120, 116, 58]⟩ : ByteArray).size = 5 := rfl
          have b6 : (⟨#[115, 97, 109, 101, 58]⟩ : ByteArray).size = 5 := rfl
          have b7 : (⟨#[112, 97, 116, 104, 58]⟩ : ByteArray).size = 5 := rfl
          have b8 : (⟨#[33]⟩ : ByteArray).size = 1 := rfl
          have b13 : (⟨#[115, 111, 109, 101, 32]⟩ : ByteArray).size = 5 := rfl
          have b14 : (⟨#[97, 108, 108, 32]⟩ : ByteArray).size = 4 := rfl
          have b15 : (⟨#[46]⟩ : ByteArray).size = 1 := rfl
          have b16 : (⟨#[116, 114, 117, 101]⟩ : ByteArray).size = 4 := rfl
          first | omega | (simp only [ByteArray.size_append]; omega)
        have HTT := Lib.hid (show x.er.textT ss = Hd ++ p0 by
          rw [HT.out, ← hHd, headT_8]
          simp only [nodeT, Int.reduceEq, if_true, if_false]
          rfl)
        have HJJ := Lib.hid (show ∀ W, Below wr.heap.size wr W → Calls Tryz.prog 63 #[.slice va' x.args.length vc', .string ⟨#[]⟩] W (GaveB (.string p0) W) from fun W h => (HJ.out W h ⟨#[]⟩ (Nat.zero_le _)).mono fun e w' g => ⟨by rw [g.1, jn_oneB], g.2⟩)
        have bz0 : (⟨#[]⟩ : ByteArray).size = 0 := rfl
        have ad0 := (fun W : World => run_string_add_sum (P := Tryz.prog) W Hd p0 (by omega))
        clear bz0 hHd HKD
        go_wp2_with fail
        refine (implFormOf _ _).mono ?_
        rintro e w1 ⟨rfl, rfl⟩
        simp only [formV, formT_8]
        go_wp2_with fail
        refine HH.out.mono ?_
        rintro e w2 ⟨rfl, hb2⟩
        clear a0 b1 b2 b3 b4
        go_wp2_with fail
        refine (HJJ.out _ hb2).mono ?_
        rintro e w3 ⟨rfl, hb3⟩
        have hB3 := (HBW.out.trans (hb2.mono HBW.out.size)).trans (hb3.mono (HBW.out.trans (hb2.mono HBW.out.size)).size)
        go_wp2_with fail
        go_ret
        exact ⟨by first | (rw [HTT.out]; with_reducible rfl) | (rw [HTT.out, app_empty]; with_reducible rfl) | (rw [HTT.out]; simp [Array.getD]; done), hB3⟩
      · have hn : x.args.length = 2 := by
          have : arityF 9 = 2 := rfl
          omega
        clear har
        obtain ⟨p0, p1, rfl⟩ : ∃ p0 p1, P = [p0, p1] := by
          have h := HPL.out
          rw [hn] at h
          match P, h with
          | [p0, p1], _ => exact ⟨p0, p1, rfl⟩
        have hs0 : p0.size ≤ 360 := HTS.out p0 (by simp)
        have hs1 : p1.size ≤ 360 := HTS.out p1 (by simp)
        have HN := Lib.hid hn
        clear hn
        have hw0 := HWR.out.cell 9
        simp only [List.getElem?_toArray, List.getElem?_cons_succ, List.getElem?_cons_zero] at hw0
        obtain ⟨J, hJ⟩ : ∃ J, p0 ++ (⟨#[38]⟩ : ByteArray) ++ p1 = J := ⟨_, rfl⟩
        have hJs : J.size ≤ 721 := by
          rw [← hJ]
          simp only [ByteArray.size_append]
          have : (⟨#[38]⟩ : ByteArray).size = 1 := rfl
          omega
        have HTT := Lib.hid (show x.er.textT ss = (⟨#[40]⟩ : ByteArray) ++ J ++ ⟨#[41]⟩ by
          rw [HT.out, ← hJ, pair_text]
          show nodeT ss 9 x.k x.u x.v [p0, p1] = _
          simp only [nodeT, Int.reduceEq, if_true, if_false]
          rfl)
        have HJJ := Lib.hid (show ∀ W, Below wr.heap.size wr W → Calls Tryz.prog 63 #[.slice va' x.args.length vc', .string ⟨#[38]⟩] W (GaveB (.string J) W) from fun W h => (HJ.out W h ⟨#[38]⟩ (Nat.le_refl _)).mono fun e w' g => ⟨by rw [g.1, jn_two, hJ], g.2⟩)
        have bz0 : (⟨#[40]⟩ : ByteArray).size = 1 := rfl
        have bz1 : (⟨#[41]⟩ : ByteArray).size = 1 := rfl
        have ad0 := (fun W : World => run_string_add_sum (P := Tryz.prog) W (⟨#[40]⟩ : ByteArray) J (by omega))
        have ad1 := (fun W : World => run_string_add_sum (P := Tryz.prog) W ((⟨#[40]⟩ : ByteArray) ++ J) (⟨#[41]⟩ : ByteArray) (by simp only [ByteArray.size_append]; omega))
        clear bz0 bz1 hJ HKD
        go_wp2_with fail
        refine (implFormOf _ _).mono ?_
        rintro e w1 ⟨rfl, rfl⟩
        simp only [formV, formT_9]
        go_wp2_with fail
        refine (HJJ.out _ (Below.refl _ _)).mono ?_
        rintro e w2 ⟨rfl, hb2⟩
        have hB2 := HBW.out.trans (hb2.mono HBW.out.size)
        go_wp2_with fail
        go_ret
        exact ⟨by first | (rw [HTT.out]; with_reducible rfl) | (rw [HTT.out]; simp [Array.getD]; done), hB2⟩
      · have hn : x.args.length = 2 := by
          have : arityF 10 = 2 := rfl
          omega
        clear har
        obtain ⟨p0, p1, rfl⟩ : ∃ p0 p1, P = [p0, p1] := by
          have h := HPL.out
          rw [hn] at h
          match P, h with
          | [p0, p1], _ => exact ⟨p0, p1, rfl⟩
        have hs0 : p0.size ≤ 360 := HTS.out p0 (by simp)
        have hs1 : p1.size ≤ 360 := HTS.out p1 (by simp)
        have HN := Lib.hid hn
        clear hn
        have hw0 := HWR.out.cell 10
        simp only [List.getElem?_toArray, List.getElem?_cons_succ, List.getElem?_cons_zero] at hw0
        obtain ⟨J, hJ⟩ : ∃ J, p0 ++ (⟨#[124]⟩ : ByteArray) ++ p1 = J := ⟨_, rfl⟩
        have hJs : J.size ≤ 721 := by
          rw [← hJ]
          simp only [ByteArray.size_append]
          have : (⟨#[124]⟩ : ByteArray).size = 1 := rfl
          omega
        have HTT := Lib.hid (show x.er.textT ss = (⟨#[40]⟩ : ByteArray) ++ J ++ ⟨#[41]⟩ by
          rw [HT.out, ← hJ, pair_text]
          show nodeT ss 10 x.k x.u x.v [p0, p1] = _
          simp only [nodeT, Int.reduceEq, if_true, if_false]
          rfl)
        have HJJ := Lib.hid (show ∀ W, Below wr.heap.size wr W → Calls Tryz.prog 63 #[.slice va' x.args.length vc', .string ⟨#[124]⟩] W (GaveB (.string J) W) from fun W h => (HJ.out W h ⟨#[124]⟩ (Nat.le_refl _)).mono fun e w' g => ⟨by rw [g.1, jn_two, hJ], g.2⟩)
        have bz0 : (⟨#[40]⟩ : ByteArray).size = 1 := rfl
        have bz1 : (⟨#[41]⟩ : ByteArray).size = 1 := rfl
        have ad0 := (fun W : World => run_string_add_sum (P := Tryz.prog) W (⟨#[40]⟩ : ByteArray) J (by omega))
        have ad1 := (fun W : World => run_string_add_sum (P := Tryz.prog) W ((⟨#[40]⟩ : ByteArray) ++ J) (⟨#[41]⟩ : ByteArray) (by simp only [ByteArray.size_append]; omega))
        clear bz0 bz1 hJ HKD
        go_wp2_with fail
        refine (implFormOf _ _).mono ?_
        rintro e w1 ⟨rfl, rfl⟩
        simp only [formV, formT_10]
        go_wp2_with fail
        refine (HJJ.out _ (Below.refl _ _)).mono ?_
        rintro e w2 ⟨rfl, hb2⟩
        have hB2 := HBW.out.trans (hb2.mono HBW.out.size)
        go_wp2_with fail
        go_ret
        exact ⟨by first | (rw [HTT.out]; with_reducible rfl) | (rw [HTT.out]; simp [Array.getD]; done), hB2⟩
      · have hn : x.args.length = 1 := by
          have : arityF 11 = 1 := rfl
          omega
        clear har
        obtain ⟨p0, rfl⟩ : ∃ p0, P = [p0] := by
          have h := HPL.out
          rw [hn] at h
          match P, h with
          | [p0], _ => exact ⟨p0, rfl⟩
        have hs0 : p0.size ≤ 360 := HTS.out p0 (by simp)
        have HN := Lib.hid hn
        clear hn
        have b1 := HX.out.c 1 _ rfl
        have b2 := HX.out.c 2 _ rfl
        have b3 := HX.out.c 3 _ rfl
        have b4 := HX.out.c 4 _ rfl
        obtain ⟨Hd, hHd⟩ : ∃ h, headT ss 11 x.k x.u x.v = h := ⟨_, rfl⟩
        have HH := Lib.hid (implHead_11 ss va vca x.k x.u x.v x.a x.args.length x.cap wr HWR.out HUV.out.1)
        rw [hHd] at HH
        have hHs : Hd.size ≤ 20 := by
          rw [← hHd, headT_11]
          have h1 := letterT_size x.u
          have h2 := letterT_size x.v
          have b1 : (⟨#[111, 110, 32]⟩ : ByteArray).size = 3 := rfl
          have b2 : (⟨#[102, 114, 111, 109, 32]⟩ : ByteArray).size = 5 := rfl
          have b3 : (⟨#[58]⟩ : ByteArray).size = 1 := rfl
          have b4 : (⟨#[115, 104, 97, 114, 101, 100, 58]⟩ : ByteArray).size = 7 := rfl
          have b5 : (⟨#[110, 101, 120, 116, 58]⟩ : ByteArray).size = 5 := rfl
          have b6 : (⟨#[115, 97, 109, 101, 58]⟩ : ByteArray).size = 5 := rfl
          have b7 : (⟨#[112, 97, 116, 104, 58]⟩ : ByteArray).size = 5 := rfl
          have b8 : (⟨#[33]⟩ : ByteArray).size = 1 := rfl
          have b13 : (⟨#[115, 111, 109, 101, 32]⟩ : ByteArray).size = 5 := rfl
          have b14 : (⟨#[97, 108, 108, 32]⟩ : ByteArray).size = 4 := rfl
          have b15 : (⟨#[46]⟩ : ByteArray).size = 1 := rfl
          have b16 : (⟨#[116, 114, 117, 101]⟩ : ByteArray).size = 4 := rfl
          first | omega | (simp only [ByteArray.size_append]; omega)
        have HTT := Lib.hid (show x.er.textT ss = Hd ++ p0 by
          rw [HT.out, ← hHd, headT_11]
          simp only [nodeT, Int.reduceEq, if_true, if_false]
          rfl)
        have HJJ := Lib.hid (show ∀ W, Below wr.heap.size wr W → Calls Tryz.prog 63 #[.slice va' x.args.length vc', .string ⟨#[]⟩] W (GaveB (.string p0) W) from fun W h => (HJ.out W h ⟨#[]⟩ (Nat.zero_le _)).mono fun e w' g => ⟨by rw [g.1, jn_oneB], g.2⟩)
        have bz0 : (⟨#[]⟩ : ByteArray).size = 0 := rfl
        have ad0 := (fun W : World => run_string_add_sum (P := Tryz.prog) W Hd p0 (by omega))
        clear bz0 hHd HKD
        go_wp2_with fail
        refine (implFormOf _ _).mono ?_
        rintro e w1 ⟨rfl, rfl⟩
        simp only [formV, formT_11]
        go_wp2_with fail
        refine HH.out.mono ?_
        rintro e w2 ⟨rfl, hb2⟩
        clear a0 b1 b2 b3 b4
        go_wp2_with fail
        refine (HJJ.out _ hb2).mono ?_
        rintro e w3 ⟨rfl, hb3⟩
        have hB3 := (HBW.out.trans (hb2.mono HBW.out.size)).trans (hb3.mono (HBW.out.trans (hb2.mono HBW.out.size)).size)
        go_wp2_with fail
        go_ret
        exact ⟨by first | (rw [HTT.out]; with_reducible rfl) | (rw [HTT.out, app_empty]; with_reducible rfl) | (rw [HTT.out]; simp [Array.getD]; done), hB3⟩
      · have hn : x.args.length = 1 := by
          have : arityF 12 = 1 := rfl
          omega
        clear har
        obtain ⟨p0, rfl⟩ : ∃ p0, P = [p0] := by
          have h := HPL.out
          rw [hn] at h
          match P, h with
          | [p0], _ => exact ⟨p0, rfl⟩
        have hs0 : p0.size ≤ 360 := HTS.out p0 (by simp)
        have HN := Lib.hid hn
        clear hn
        have b1 := HX.out.c 1 _ rfl
        have b2 := HX.out.c 2 _ rfl
        have b3 := HX.out.c 3 _ rfl
        have b4 := HX.out.c 4 _ rfl
        obtain ⟨Hd, hHd⟩ : ∃ h, headT ss 12 x.k x.u x.v = h := ⟨_, rfl⟩
        have HH := Lib.hid (implHead_12 ss va vca x.k x.u x.v x.a x.args.length x.cap wr HWR.out HUV.out.1)
        rw [hHd] at HH
        have hHs : Hd.size ≤ 20 := by
          rw [← hHd, headT_12]
          have h1 := letterT_size x.u
          have h2 := letterT_size x.v
          have b1 : (⟨#[111, 110, 32]⟩ : ByteArray).size = 3 := rfl
          have b2 : (⟨#[102, 114, 111, 109, 32]⟩ : ByteArray).size = 5 := rfl
          have b3 : (⟨#[58]⟩ : ByteArray).size = 1 := rfl
          have b4 : (⟨#[115, 104, 97, 114, 101, 100, 58]⟩ : ByteArray).size = 7 := rfl
          have b5 : (⟨#[110, 101, 120, 116, 58]⟩ : ByteArray).size = 5 := rfl
          have b6 : (⟨#[115, 97, 109, 101, 58]⟩ : ByteArray).size = 5 := rfl
          have b7 : (⟨#[112, 97, 116, 104, 58]⟩ : ByteArray).size = 5 := rfl
          have b8 : (⟨#[33]⟩ : ByteArray).size = 1 := rfl
          have b13 : (⟨#[115, 111, 109, 101, 32]⟩ : ByteArray).size = 5 := rfl
          have b14 : (⟨#[97, 108, 108, 32]⟩ : ByteArray).size = 4 := rfl
          have b15 : (⟨#[46]⟩ : ByteArray).size = 1 := rfl
          have b16 : (⟨#[116, 114, 117, 101]⟩ : ByteArray).size = 4 := rfl
          first | omega | (simp only [ByteArray.size_append]; omega)
        have HTT := Lib.hid (show x.er.textT ss = Hd ++ p0 by
          rw [HT.out, ← hHd, headT_12]
          simp only [nodeT, Int.reduceEq, if_true, if_false]
          rfl)
        have HJJ := Lib.hid (show ∀ W, Below wr.heap.size wr W → Calls Tryz.prog 63 #[.slice va' x.args.length vc', .string ⟨#[]⟩] W (GaveB (.string p0) W) from fun W h => (HJ.out W h ⟨#[]⟩ (Nat.zero_le _)).mono fun e w' g => ⟨by rw [g.1, jn_oneB], g.2⟩)
        have bz0 : (⟨#[]⟩ : ByteArray).size = 0 := rfl
        have ad0 := (fun W : World => run_string_add_sum (P := Tryz.prog) W Hd p0 (by omega))
        clear bz0 hHd HKD
        go_wp2_with fail
        refine (implFormOf _ _).mono ?_
        rintro e w1 ⟨rfl, rfl⟩
        simp only [formV, formT_12]
        go_wp2_with fail
        refine HH.out.mono ?_
        rintro e w2 ⟨rfl, hb2⟩
        clear a0 b1 b2 b3 b4
        go_wp2_with fail
        refine (HJJ.out _ hb2).mono ?_
        rintro e w3 ⟨rfl, hb3⟩
        have hB3 := (HBW.out.trans (hb2.mono HBW.out.size)).trans (hb3.mono (HBW.out.trans (hb2.mono HBW.out.size)).size)
        go_wp2_with fail
        go_ret
        exact ⟨by first | (rw [HTT.out]; with_reducible rfl) | (rw [HTT.out, app_empty]; with_reducible rfl) | (rw [HTT.out]; simp [Array.getD]; done), hB3⟩
end Go.Proofs.YtplchhahjmoodaaGreatDoor
