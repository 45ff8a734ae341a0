/-
  The model's text of a formula. (Printed by wip/tools/gen_form_text.py.)
-/
import Derived.Laws.Concat
import Derived.Test.YtplchhahjmoodaaGreatDoorZ16
import Derived.Test.YtplchhahjmoodaaGreatDoorZ25
import Derived.Test.YtplchhahjmoodaaGreatDoorZ11
namespace Go.Proofs.YtplchhahjmoodaaGreatDoor
open Go Go.RowKit Go.ChangeAt Go.ChangeShapes Go.WideShapes

theorem strInfoT : (Tryz.prog.info? 9).map (fun i => (i.zero, i.size, i.bytes)) = some (some (.string ⟨#[]⟩), 1, 16) := by kernel_rfl
theorem node_fields {n : Int} {x : Ft} (h : x.er.formB n = true) : (usesF x.kd < 1 → x.u = 0) ∧ (usesF x.kd < 2 → x.v = 0) ∧ (¬ (x.kd = 2 ∨ x.kd = 3) → x.k = 0) ∧ (x.kd = 2 ∨ x.kd = 3 → 0 ≤ x.k ∧ x.k < n) ∧ (0 ≤ x.u ∧ x.u ≤ 3) ∧ (0 ≤ x.v ∧ x.v ≤ 3) ∧ (x.args.length : Int) = arityF x.kd := by
  rw [Fm.formB_eq, Bool.and_eq_true] at h
  have h1 := h.1
  rw [Ft.er_eq] at h1
  have h2 := (nodeB_iff _ _ _ _ _ _).1 h1
  simpa [Fm.kd, Fm.k, Fm.u, Fm.v, Fm.args] using h2
theorem node_parts {n : Int} {x : Ft} (h : x.er.formB n = true) : ∀ y ∈ x.args, y.er.formB n = true := by
  rw [Fm.formB_eq, Bool.and_eq_true, List.all_eq_true] at h
  intro y hy
  refine h.2 _ ?_
  rw [Ft.er_args]
  exact List.mem_map.2 ⟨y, hy, rfl⟩
theorem kind_range {k : Int} {n : Nat} (h : (n : Int) = arityF k) : k = 1 ∨ k = 2 ∨ k = 3 ∨ k = 4 ∨ k = 5 ∨ k = 6 ∨ k = 7 ∨ k = 8 ∨ k = 9 ∨ k = 10 ∨ k = 11 ∨ k = 12 := by
  unfold arityF at h
  split at h
  · omega
  · split at h
    · omega
    · split at h <;> omega
theorem own_formT {w : World} {base e size n : Nat} {v : Value} {xs : List Value} (h : w.ownsRow base e size v n xs) : ∃ a c, v = .slice a n c ∧ n ≤ c := by
  rcases h.2 with ⟨rfl, rfl⟩ | ⟨g, cap, cur, rfl, _, _, h1, _⟩
  · exact ⟨none, 0, rfl, Nat.le_refl _⟩
  · exact ⟨_, _, rfl, h1⟩
theorem total_part {ts : List ByteArray} {i : Nat} {m : Nat} (h : ∀ s ∈ ts, s.size ≤ m) : (partT ts i).size ≤ m := by
  unfold partT
  rw [List.getD_eq_getElem?_getD]
  cases hg : ts[i]? with
  | none => simp [ByteArray.size]
  | some s => exact h s (List.mem_of_getElem? hg)
theorem row_str {w : World} {Bd : Nat} {a : Option Addr} {ss : List ByteArray} (h : Row w Bd a (strVals ss)) (i : Nat) (hi : i < ss.length) : ∃ b o, a = some ⟨b, o, none⟩ ∧ b < Bd ∧ w.cell? ⟨b, o + i, none⟩ = some (.string (partT ss i)) := by
  have hx : partT ss i = ss[i] := by simp [partT, hi]
  rw [hx]
  exact h i _ (by simp [strVals, hi])
set_option maxRecDepth 100000 in
set_option maxHeartbeats 6400000 in
theorem specText (ss : List ByteArray) (va : Option Addr) (vca : Nat) (hgood : ∀ s ∈ ss, s.size ≤ 2) (hlen : ss.length ≤ 4) : ∀ x : Ft, ∀ w : World, x.er.formB ss.length = true → x.er.size ≤ 40 → x.In w w.heap.size → Row w w.heap.size va (strVals ss) → Calls Tryz.prog 37 #[.slice va ss.length vca, x.val] w (GaveB (.string (x.er.textT ss)) w) := by
  apply Ft.ind
  intro x ih w hf hsz hin hrow
  obtain ⟨i0, hi, hz0, hz1, hz2⟩ := info_parts strInfoT
  have hnf := node_fields hf
  have hnp := node_parts hf
  have hse := x.size_er
  have hln := Fm.length_sizes (x.args.map Ft.er)
  rw [List.length_map] at hln
  have hal : x.args.length ≤ 40 := by omega
  have hps : ∀ y ∈ x.args, y.er.size ≤ 40 := fun y hy => by
    have := Fm.size_mem (x.args.map Ft.er) _ (List.mem_map.2 ⟨y, hy, rfl⟩)
    omega
  have hts : ∀ s ∈ x.args.map (fun y => y.er.textT ss), s.size ≤ 360 := fun s hs => by
    obtain ⟨y, hy, rfl⟩ := List.mem_map.1 hs
    have h1 := Fm.text_size hgood _ (hnp y hy)
    have h2 := hps y hy
    omega
  have HTS := Lib.hid hts
  have HT := Lib.hid (x.textT_er ss)
  have HNF := Lib.hid hnf
  have HGD := Lib.hid hgood
  have hb0 := (Below.refl w.heap.size w).alloc (Nat.le_refl _) (.cells #[.int .i64 x.kd, .int .i64 x.k, .int .i64 x.u, .int .i64 x.v, .slice x.a x.args.length x.cap] 27)
  obtain ⟨W0, hW0⟩ : ∃ W, w.alloc (.cells #[.int .i64 x.kd, .int .i64 x.k, .int .i64 x.u, .int .i64 x.v, .slice x.a x.args.length x.cap] 27) = W := ⟨_, rfl⟩
  have hx0 : BoxL W0 w.heap.size x.cells := by rw [← hW0]; exact BoxL.new w x.cells _
  rw [hW0] at hb0
  have HW0 := Lib.hid hW0
  have KK := Lib.hid (fun (W : World) (h : Below W0.heap.size W0 W) => show BoxL W w.heap.size x.cells ∧ Below w.heap.size w W ∧ x.In W W.heap.size ∧ Row W W.heap.size va (strVals ss) from ⟨hx0.below h, hb0.trans (h.mono hb0.size), hin.to (hb0.trans (h.mono hb0.size)), (hrow.below (hb0.trans (h.mono hb0.size))).grow (hb0.trans (h.mono hb0.size)).size⟩)
  have IH := Lib.hid (fun (y : Ft) (hy : y ∈ x.args) (W : World) (h : Below W0.heap.size W0 W) => ih y hy W (hnp y hy) (hps y hy) ((KK.out W h).2.2.1.part hy) (KK.out W h).2.2.2)
  have hs0 : w.heap.size < W0.heap.size := hx0.lt
  have HS0 := Lib.hid (show W0.heap.size = w.heap.size + 1 by rw [← hW0]; simp)
  obtain ⟨txt, htxt⟩ : ∃ f : Ft → ByteArray, (fun y : Ft => y.er.textT ss) = f := ⟨_, rfl⟩
  have htx : ∀ y, y.er.textT ss = txt y := fun y => by rw [← htxt]
  have HTX := Lib.hid htx
  rw [htxt] at HT HTS
  have a4 := hx0.c 4 _ rfl
  clear hW0 ih hf hsz hin hrow hnf hnp hse hln hps hts hx0 hb0 htxt htx hgood
  go_enter Tryz.func37, Tryz.ntmps37
  go_wp2_with fail
  rw [HW0.out]
  clear HW0
  go_loopw [5, 6] (fun v i wr => ∃ k : Nat, k ≤ x.args.length ∧ i = .int .i64 k ∧ wr.ownsRow W0.heap.size 9 1 v k (strVals ((x.args.take k).map txt)) ∧ Below W0.heap.size W0 wr) (fun _ i _ => x.args.length - (intOf i).toNat)
  case atStart => exact ⟨0, Nat.zero_le _, rfl, by have h := World.ownsRow_made (e := 9) (size := 1) (base := W0.heap.size) W0 #[] 0 (Nat.le_refl _) (Nat.zero_le _) rfl; rw [HS0.out] at h ⊢; exact h, (Below.refl _ _).alloc (Nat.le_refl _) _⟩
  case round =>
    clear a4
    obtain ⟨k, hk, rfl, hown, hb⟩ := hrel
    obtain ⟨hbx, hbw, hinr, hrw⟩ := KK.out _ hb
    have a4 := hbx.c 4 _ rfl
    by_cases hlt : k < x.args.length
    · obtain ⟨rb, ro, hra, hrb, hE⟩ := hinr.row.node k hlt
      have hI := IH.out x.args[k] (List.getElem_mem hlt) wr hb
      have hnx := take_next x.args k hlt
      generalize x.args[k] = y at *
      have hnx' : (x.args.take (k + 1)).map txt = (x.args.take k).map txt ++ [txt y] := by rw [hnx, List.map_append]; rfl
      rw [HTX.out y] at hI
      have HNX := Lib.hid hnx'
      have HI := Lib.hid hI
      have HO := Lib.hid hown
      obtain ⟨d0, d1, d2, d3, d4⟩ := hE
      rw [hra] at a4
      clear hra hnx hnx' hI hown hbx hbw hinr hrw
      go_wp2_with fail
      refine HI.out.mono ?_
      rintro e w1 ⟨rfl, hb1⟩
      have HO1 := Lib.hid (own_keeps HO.out hb1)
      have hB1 := hb.trans (hb1.mono hb.size)
      clear d0 d1 d2 d3 d4 a4 hb1
      go_wp2_with (at_builtin; refine wpList_append_own_at _ rfl (.tmp 15) (.tmp 23) 24 rfl W0.heap.size 9 i0 (.string ⟨#[]⟩) 1 16 Tryz.underlying24 hi hz0 hz1 hz2 rfl (by decide) _ k _ rfl (HO1.out.alloc _) ⟨w1.heap.size, 0, none⟩ 1 1 [.string (txt y)] rfl rfl (oneCell_at _) (oneCell_str _) (by unfold maxLen; omega) (by omega) (by have := hB1.size; simp; omega) ?_; intro v6 w6 hown6 hg6 _ hloc6)
      have hb6 := below_grown (hB1.alloc hB1.size _) hg6 (by have := hB1.size; simp; omega) (fun q hq => (HO1.out.lt q hq).1)
      clear hg6 hloc6
      go_wp2_with fail
      go_roundw
      case rel => exact ⟨k + 1, by omega, by go_num, by rw [HNX.out, strVals_snoc]; exact hown6, hb6⟩
      case measure => simp [intOf]; omega
    · obtain rfl : k = x.args.length := by omega
      rw [List.take_length] at hown
      obtain ⟨va', vc', rfl, hvc⟩ := own_formT hown
      have hpr : ∀ i, i < x.args.length → ∃ b o, va' = some ⟨b, o, none⟩ ∧ wr.cell? ⟨b, o + i, none⟩ = some (.string (partT (x.args.map txt) i)) := fun i hi' => by
        obtain ⟨b, o, e, _, hc⟩ := row_str (Row.owned hown) i (by rw [List.length_map]; exact hi')
        exact ⟨b, o, e, hc⟩
      obtain ⟨hu1, hv1, hk0, hk1, hu, hv, har⟩ := HNF.out
      have hkinds := kind_range har
      have hpt := fun i => total_part (i := i) HTS.out
      have hlu := letterT_size x.u
      have hlv := letterT_size x.v
      have hb' := Lib.hid hb
      have HKD := Lib.hid (And.intro hk1 (And.intro hk0 (And.intro hu1 hv1)))
      have HLU := Lib.hid (fun W : World => specLetter x.u hu W)
      have HLV := Lib.hid (fun W : World => specLetter x.v hv W)
      have HFIN := Lib.hid hbw
      obtain ⟨P, hP⟩ : ∃ P, x.args.map txt = P := ⟨_, rfl⟩
      rw [hP] at hpr hpt HT
      have HPR := Lib.hid hpr
      have HPT := Lib.hid hpt
      have a1 := hbx.c 1 _ rfl
      have a2 := hbx.c 2 _ rfl
      have a3 := hbx.c 3 _ rfl
      have a0 := hbx.c 0 _ rfl
      have hrw0 := Lib.hid hrw
      clear hown hvc hpr hpt hu1 hv1 hk0 hk1 hinr hbx hlt hP hrw hbw
      rcases hkinds with e | e | e | e | e | e | e | e | e | e | e | e
      all_goals
        rw [e] at HT a0 har
      · clear HKD
        have hT : x.er.textT ss = (⟨#[116, 114, 117, 101]⟩ : ByteArray) := by
          rw [HT.out]
          show nodeT ss 1 x.k x.u x.v P = _
          simp only [nodeT, Int.reduceEq, if_true, if_false]
        have HTT := Lib.hid hT
        clear hT
        go_wp2_with fail
        go_ret
        exact ⟨by rw [HTT.out]; rfl, HFIN.out⟩
      · obtain ⟨hk0, hk1⟩ := HKD.out.1 (.inl e)
        obtain ⟨kn, hkn⟩ : ∃ kn : Nat, x.k = (kn : Int) := ⟨x.k.toNat, by omega⟩
        have hkl : kn < ss.length := by omega
        obtain ⟨nb, no, hva, hnb, hnc⟩ := row_str hrw0.out kn hkl
        have hnm : nameAt ss x.k = partT ss kn := by rw [hkn]; rfl
        have hns : (partT ss kn).size ≤ 2 := total_part HGD.out
        rw [hkn] at a1
        subst hva
        clear HKD hk0 hk1
        obtain ⟨nm, hnme⟩ : ∃ nm, partT ss kn = nm := ⟨_, rfl⟩
        rw [hnme] at hnc hnm hns
        have bz0 : (⟨#[111, 110, 32]⟩ : ByteArray).size = 3 := rfl
        have bz1 : (⟨#[58]⟩ : ByteArray).size = 1 := rfl
        have ad0 := (fun W : World => run_string_add_sum (P := Tryz.prog) W ((⟨#[111, 110, 32]⟩ : ByteArray)) nm (by first | omega | (simp only [ByteArray.size_append]; omega)))
        have ad1 := (fun W : World => run_string_add_sum (P := Tryz.prog) W ((⟨#[111, 110, 32]⟩ : ByteArray) ++ nm) (⟨#[58]⟩ : ByteArray) (by first | omega | (simp only [ByteArray.size_append]; omega)))
        have ad2 := (fun W : World => run_string_add_sum (P := Tryz.prog) W ((⟨#[111, 110, 32]⟩ : ByteArray) ++ nm ++ (⟨#[58]⟩ : ByteArray)) (letterT x.u) (by first | omega | (simp only [ByteArray.size_append]; omega)))
        clear bz0 bz1
        have hT : x.er.textT ss = (⟨#[111, 110, 32]⟩ : ByteArray) ++ nm ++ (⟨#[58]⟩ : ByteArray) ++ letterT x.u := by
          rw [HT.out]
          show nodeT ss 2 x.k x.u x.v P = _
          simp only [nodeT, Int.reduceEq, if_true, if_false, hnm]
        have HTT := Lib.hid hT
        clear hT
        go_wp2_with fail
        go_quiet (first | (go_at_call 86; first | exact Calls.quiet_of_same (HLU.out _) | exact Calls.quiet_of_same (HLV.out _)))
        go_wp2_with fail
        go_ret
        exact ⟨by rw [HTT.out]; rfl, by first | exact below_draws HFIN.out _ | exact Below.drew HFIN.out⟩
      · obtain ⟨hk0, hk1⟩ := HKD.out.1 (.inr e)
        obtain ⟨kn, hkn⟩ : ∃ kn : Nat, x.k = (kn : Int) := ⟨x.k.toNat, by omega⟩
        have hkl : kn < ss.length := by omega
        obtain ⟨nb, no, hva, hnb, hnc⟩ := row_str hrw0.out kn hkl
        have hnm : nameAt ss x.k = partT ss kn := by rw [hkn]; rfl
        have hns : (partT ss kn).size ≤ 2 := total_part HGD.out
        rw [hkn] at a1
        subst hva
        clear HKD hk0 hk1
        obtain ⟨nm, hnme⟩ : ∃ nm, partT ss kn = nm := ⟨_, rfl⟩
        rw [hnme] at hnc hnm hns
        have bz0 : (⟨#[102, 114, 111, 109, 32]⟩ : ByteArray).size = 5 := rfl
        have bz1 : (⟨#[58]⟩ : ByteArray).size = 1 := rfl
        have ad0 := (fun W : World => run_string_add_sum (P := Tryz.prog) W ((⟨#[102, 114, 111, 109, 32]⟩ : ByteArray)) nm (by first | omega | (simp only [ByteArray.size_append]; omega)))
        have ad1 := (fun W : World => run_string_add_sum (P := Tryz.prog) W ((⟨#[102, 114, 111, 109, 32]⟩ : ByteArray) ++ nm) (⟨#[58]⟩ : ByteArray) (by first | omega | (simp only [ByteArray.size_append]; omega)))
        have ad2 := (fun W : World => run_string_add_sum (P := Tryz.prog) W ((⟨#[102, 114, 111, 109, 32]⟩ : ByteArray) ++ nm ++ (⟨#[58]⟩ : ByteArray)) (letterT x.u) (by first | omega | (simp only [ByteArray.size_append]; omega)))
        clear bz0 bz1
        have hT : x.er.textT ss = (⟨#[102, 114, 111, 109, 32]⟩ : ByteArray) ++ nm ++ (⟨#[58]⟩ : ByteArray) ++ letterT x.u := by
          rw [HT.out]
          show nodeT ss 3 x.k x.u x.v P = _
          simp only [nodeT, Int.reduceEq, if_true, if_false, hnm]
        have HTT := Lib.hid hT
        clear hT
        go_wp2_with fail
        go_quiet (first | (go_at_call 86; first | exact Calls.quiet_of_same (HLU.out _) | exact Calls.quiet_of_same (HLV.out _)))
        go_wp2_with fail
        go_ret
        exact ⟨by rw [HTT.out]; rfl, by first | exact below_draws HFIN.out _ | exact Below.drew HFIN.out⟩
      · clear HKD
        have bz0 : (⟨#[115, 104, 97, 114, 101, 100, 58]⟩ : ByteArray).size = 7 := rfl
        have ad0 := (fun W : World => run_string_add_sum (P := Tryz.prog) W ((⟨#[115, 104, 97, 114, 101, 100, 58]⟩ : ByteArray)) (letterT x.u) (by first | omega | (simp only [ByteArray.size_append]; omega)))
        clear bz0
        have hT : x.er.textT ss = (⟨#[115, 104, 97, 114, 101, 100, 58]⟩ : ByteArray) ++ letterT x.u := by
          rw [HT.out]
          show nodeT ss 4 x.k x.u x.v P = _
          simp only [nodeT, Int.reduceEq, if_true, if_false]
        have HTT := Lib.hid hT
        clear hT
        go_wp2_with fail
        refine (HLU.out _).mono ?_
        rintro e w2 ⟨rfl, rfl⟩
        go_wp2_with fail
        go_ret
        exact ⟨by rw [HTT.out]; rfl, HFIN.out⟩
      · clear HKD
        have bz0 : (⟨#[110, 101, 120, 116, 58]⟩ : ByteArray).size = 5 := rfl
        have ad0 := (fun W : World => run_string_add_sum (P := Tryz.prog) W ((⟨#[110, 101, 120, 116, 58]⟩ : ByteArray)) (letterT x.u) (by first | omega | (simp only [ByteArray.size_append]; omega)))
        have ad1 := (fun W : World => run_string_add_sum (P := Tryz.prog) W (((⟨#[110, 101, 120, 116, 58]⟩ : ByteArray) ++ letterT x.u)) (letterT x.v) (by first | omega | (simp only [ByteArray.size_append]; omega)))
        clear bz0
        have hT : x.er.textT ss = (⟨#[110, 101, 120, 116, 58]⟩ : ByteArray) ++ letterT x.u ++ letterT x.v := by
          rw [HT.out]
          show nodeT ss 5 x.k x.u x.v P = _
          simp only [nodeT, Int.reduceEq, if_true, if_false]
        have HTT := Lib.hid hT
        clear hT
        go_wp2_with fail
        go_quiet (first | (go_at_call 86; first | exact Calls.quiet_of_same (HLU.out _) | exact Calls.quiet_of_same (HLV.out _)))
        go_wp2_with fail
        go_ret
        exact ⟨by rw [HTT.out]; rfl, by first | exact below_draws HFIN.out _ | exact Below.drew HFIN.out⟩
      · clear HKD
        have bz0 : (⟨#[115, 97, 109, 101, 58]⟩ : ByteArray).size = 5 := rfl
        have ad0 := (fun W : World => run_string_add_sum (P := Tryz.prog) W ((⟨#[115, 97, 109, 101, 58]⟩ : ByteArray)) (letterT x.u) (by first | omega | (simp only [ByteArray.size_append]; omega)))
        have ad1 := (fun W : World => run_string_add_sum (P := Tryz.prog) W (((⟨#[115, 97, 109, 101, 58]⟩ : ByteArray) ++ letterT x.u)) (letterT x.v) (by first | omega | (simp only [ByteArray.size_append]; omega)))
        clear bz0
        have hT : x.er.textT ss = (⟨#[115, 97, 109, 101, 58]⟩ : ByteArray) ++ letterT x.u ++ letterT x.v := by
          rw [HT.out]
          show nodeT ss 6 x.k x.u x.v P = _
          simp only [nodeT, Int.reduceEq, if_true, if_false]
        have HTT := Lib.hid hT
        clear hT
        go_wp2_with fail
        go_quiet (first | (go_at_call 86; first | exact Calls.quiet_of_same (HLU.out _) | exact Calls.quiet_of_same (HLV.out _)))
        go_wp2_with fail
        go_ret
        exact ⟨by rw [HTT.out]; rfl, by first | exact below_draws HFIN.out _ | exact Below.drew HFIN.out⟩
      · clear HKD
        have bz0 : (⟨#[112, 97, 116, 104, 58]⟩ : ByteArray).size = 5 := rfl
        have ad0 := (fun W : World => run_string_add_sum (P := Tryz.prog) W ((⟨#[112, 97, 116, 104, 58]⟩ : ByteArray)) (letterT x.u) (by first | omega | (simp only [ByteArray.size_append]; omega)))
        have ad1 := (fun W : World => run_string_add_sum (P := Tryz.prog) W (((⟨#[112, 97, 116, 104, 58]⟩ : ByteArray) ++ letterT x.u)) (letterT x.v) (by first | omega | (simp only [ByteArray.size_append]; omega)))
        clear bz0
        have hT : x.er.textT ss = (⟨#[112, 97, 116, 104, 58]⟩ : ByteArray) ++ letterT x.u ++ letterT x.v := by
          rw [HT.out]
          show nodeT ss 7 x.k x.u x.v P = _
          simp only [nodeT, Int.reduceEq, if_true, if_false]
        have HTT := Lib.hid hT
        clear hT
        go_wp2_with fail
        go_quiet (first | (go_at_call 86; first | exact Calls.quiet_of_same (HLU.out _) | exact Calls.quiet_of_same (HLV.out _)))
        go_wp2_with fail
        go_ret
        exact ⟨by rw [HTT.out]; rfl, by first | exact below_draws HFIN.out _ | exact Below.drew HFIN.out⟩
      · clear HKD
        have hn : x.args.length = 1 := by
          have : arityF 8 = 1 := rfl
          omega
        obtain ⟨pb, po, rfl, q0⟩ := HPR.out 0 (by omega)
        have s0 := HPT.out 0
        obtain ⟨p0, hp0⟩ : ∃ p, partT P 0 = p := ⟨_, rfl⟩
        rw [hp0] at q0 s0
        simp only [Nat.add_zero] at q0
        rw [hn]
        have bz0 : (⟨#[33]⟩ : ByteArray).size = 1 := rfl
        have ad0 := (fun W : World => run_string_add_sum (P := Tryz.prog) W ((⟨#[33]⟩ : ByteArray)) p0 (by first | omega | (simp only [ByteArray.size_append]; omega)))
        clear bz0
        have hT : x.er.textT ss = (⟨#[33]⟩ : ByteArray) ++ p0 := by
          rw [HT.out]
          show nodeT ss 8 x.k x.u x.v P = _
          simp only [nodeT, Int.reduceEq, if_true, if_false, hp0]
        have HTT := Lib.hid hT
        clear hT
        go_wp2_with fail
        go_ret
        exact ⟨by rw [HTT.out]; rfl, HFIN.out⟩
      · clear HKD
        have hn : x.args.length = 2 := by
          have : arityF 9 = 2 := rfl
          omega
        obtain ⟨pb, po, rfl, q0⟩ := HPR.out 0 (by omega)
        have s0 := HPT.out 0
        obtain ⟨p0, hp0⟩ : ∃ p, partT P 0 = p := ⟨_, rfl⟩
        rw [hp0] at q0 s0
        simp only [Nat.add_zero] at q0
        rw [hn]
        obtain ⟨pb', po', he, q1⟩ := HPR.out 1 (by omega)
        have s1 := HPT.out 1
        obtain ⟨p1, hp1⟩ : ∃ p, partT P 1 = p := ⟨_, rfl⟩
        rw [hp1] at q1 s1
        cases he
        have bz0 : (⟨#[40]⟩ : ByteArray).size = 1 := rfl
        have bz1 : (⟨#[38]⟩ : ByteArray).size = 1 := rfl
        have bz2 : (⟨#[41]⟩ : ByteArray).size = 1 := rfl
        have ad0 := (fun W : World => run_string_add_sum (P := Tryz.prog) W ((⟨#[40]⟩ : ByteArray)) p0 (by first | omega | (simp only [ByteArray.size_append]; omega)))
        have ad1 := (fun W : World => run_string_add_sum (P := Tryz.prog) W (((⟨#[40]⟩ : ByteArray) ++ p0)) (⟨#[38]⟩ : ByteArray) (by first | omega | (simp only [ByteArray.size_append]; omega)))
        have ad2 := (fun W : World => run_string_add_sum (P := Tryz.prog) W (((⟨#[40]⟩ : ByteArray) ++ p0 ++ (⟨#[38]⟩ : ByteArray))) p1 (by first | omega | (simp only [ByteArray.size_append]; omega)))
        have ad3 := (fun W : World => run_string_add_sum (P := Tryz.prog) W (((⟨#[40]⟩ : ByteArray) ++ p0 ++ (⟨#[38]⟩ : ByteArray) ++ p1)) (⟨#[41]⟩ : ByteArray) (by first | omega | (simp only [ByteArray.size_append]; omega)))
        clear bz0 bz1 bz2
        have hT : x.er.textT ss = (⟨#[40]⟩ : ByteArray) ++ p0 ++ (⟨#[38]⟩ : ByteArray) ++ p1 ++ (⟨#[41]⟩ : ByteArray) := by
          rw [HT.out]
          show nodeT ss 9 x.k x.u x.v P = _
          simp only [nodeT, Int.reduceEq, if_true, if_false, hp0, hp1]
        have HTT := Lib.hid hT
        clear hT
        go_wp2_with fail
        go_quiet (first | (go_at_call 86; first | exact Calls.quiet_of_same (HLU.out _) | exact Calls.quiet_of_same (HLV.out _)))
        go_wp2_with fail
        go_ret
        exact ⟨by rw [HTT.out]; rfl, by first | exact below_draws HFIN.out _ | exact Below.drew HFIN.out⟩
      · clear HKD
        have hn : x.args.length = 2 := by
          have : arityF 10 = 2 := rfl
          omega
        obtain ⟨pb, po, rfl, q0⟩ := HPR.out 0 (by omega)
        have s0 := HPT.out 0
        obtain ⟨p0, hp0⟩ : ∃ p, partT P 0 = p := ⟨_, rfl⟩
        rw [hp0] at q0 s0
        simp only [Nat.add_zero] at q0
        rw [hn]
        obtain ⟨pb', po', he, q1⟩ := HPR.out 1 (by omega)
        have s1 := HPT.out 1
        obtain ⟨p1, hp1⟩ : ∃ p, partT P 1 = p := ⟨_, rfl⟩
        rw [hp1] at q1 s1
        cases he
        have bz0 : (⟨#[40]⟩ : ByteArray).size = 1 := rfl
        have bz1 : (⟨#[124]⟩ : ByteArray).size = 1 := rfl
        have bz2 : (⟨#[41]⟩ : ByteArray).size = 1 := rfl
        have ad0 := (fun W : World => run_string_add_sum (P := Tryz.prog) W ((⟨#[40]⟩ : ByteArray)) p0 (by first | omega | (simp only [ByteArray.size_append]; omega)))
        have ad1 := (fun W : World => run_string_add_sum (P := Tryz.prog) W (((⟨#[40]⟩ : ByteArray) ++ p0)) (⟨#[124]⟩ : ByteArray) (by first | omega | (simp only [ByteArray.size_append]; omega)))
        have ad2 := (fun W : World => run_string_add_sum (P := Tryz.prog) W (((⟨#[40]⟩ : ByteArray) ++ p0 ++ (⟨#[124]⟩ : ByteArray))) p1 (by first | omega | (simp only [ByteArray.size_append]; omega)))
        have ad3 := (fun W : World => run_string_add_sum (P := Tryz.prog) W (((⟨#[40]⟩ : ByteArray) ++ p0 ++ (⟨#[124]⟩ : ByteArray) ++ p1)) (⟨#[41]⟩ : ByteArray) (by first | omega | (simp only [ByteArray.size_append]; omega)))
        clear bz0 bz1 bz2
        have hT : x.er.textT ss = (⟨#[40]⟩ : ByteArray) ++ p0 ++ (⟨#[124]⟩ : ByteArray) ++ p1 ++ (⟨#[41]⟩ : ByteArray) := by
          rw [HT.out]
          show nodeT ss 10 x.k x.u x.v P = _
          simp only [nodeT, Int.reduceEq, if_true, if_false, hp0, hp1]
        have HTT := Lib.hid hT
        clear hT
        go_wp2_with fail
        go_quiet (first | (go_at_call 86; first | exact Calls.quiet_of_same (HLU.out _) | exact Calls.quiet_of_same (HLV.out _)))
        go_wp2_with fail
        go_ret
        exact ⟨by rw [HTT.out]; rfl, by first | exact below_draws HFIN.out _ | exact Below.drew HFIN.out⟩
      · clear HKD
        have hn : x.args.length = 1 := by
          have : arityF 11 = 1 := rfl
          omega
        obtain ⟨pb, po, rfl, q0⟩ := HPR.out 0 (by omega)
        have s0 := HPT.out 0
        obtain ⟨p0, hp0⟩ : ∃ p, partT P 0 = p := ⟨_, rfl⟩
        rw [hp0] at q0 s0
        simp only [Nat.add_zero] at q0
        rw [hn]
        have bz0 : (⟨#[115, 111, 109, 101, 32]⟩ : ByteArray).size = 5 := rfl
        have bz1 : (⟨#[46]⟩ : ByteArray).size = 1 := rfl
        have ad0 := (fun W : World => run_string_add_sum (P := Tryz.prog) W ((⟨#[115, 111, 109, 101, 32]⟩ : ByteArray)) (letterT x.u) (by first | omega | (simp only [ByteArray.size_append]; omega)))
        have ad1 := (fun W : World => run_string_add_sum (P := Tryz.prog) W (((⟨#[115, 111, 109, 101, 32]⟩ : ByteArray) ++ letterT x.u)) (⟨#[46]⟩ : ByteArray) (by first | omega | (simp only [ByteArray.size_append]; omega)))
        have ad2 := (fun W : World => run_string_add_sum (P := Tryz.prog) W (((⟨#[115, 111, 109, 101, 32]⟩ : ByteArray) ++ letterT x.u ++ (⟨#[46]⟩ : ByteArray))) p0 (by first | omega | (simp only [ByteArray.size_append]; omega)))
        clear bz0 bz1
        have hT : x.er.textT ss = (⟨#[115, 111, 109, 101, 32]⟩ : ByteArray) ++ letterT x.u ++ (⟨#[46]⟩ : ByteArray) ++ p0 := by
          rw [HT.out]
          show nodeT ss 11 x.k x.u x.v P = _
          simp only [nodeT, Int.reduceEq, if_true, if_false, hp0]
        have HTT := Lib.hid hT
        clear hT
        go_wp2_with fail
        go_quiet (first | (go_at_call 86; first | exact Calls.quiet_of_same (HLU.out _) | exact Calls.quiet_of_same (HLV.out _)))
        go_wp2_with fail
        go_ret
        exact ⟨by rw [HTT.out]; rfl, by first | exact below_draws HFIN.out _ | exact Below.drew HFIN.out⟩
      · clear HKD
        have hn : x.args.length = 1 := by
          have : arityF 12 = 1 := rfl
          omega
        obtain ⟨pb, po, rfl, q0⟩ := HPR.out 0 (by omega)
        have s0 := HPT.out 0
        obtain ⟨p0, hp0⟩ : ∃ p, partT P 0 = p := ⟨_, rfl⟩
        rw [hp0] at q0 s0
        simp only [Nat.add_zero] at q0
        rw [hn]
        have bz0 : (⟨#[97, 108, 108, 32]⟩ : ByteArray).size = 4 := rfl
        have bz1 : (⟨#[46]⟩ : ByteArray).size = 1 := rfl
        have ad0 := (fun W : World => run_string_add_sum (P := Tryz.prog) W ((⟨#[97, 108, 108, 32]⟩ : ByteArray)) (letterT x.u) (by first | omega | (simp only [ByteArray.size_append]; omega)))
        have ad1 := (fun W : World => run_string_add_sum (P := Tryz.prog) W (((⟨#[97, 108, 108, 32]⟩ : ByteArray) ++ letterT x.u)) (⟨#[46]⟩ : ByteArray) (by first | omega | (simp only [ByteArray.size_append]; omega)))
        have ad2 := (fun W : World => run_string_add_sum (P := Tryz.prog) W (((⟨#[97, 108, 108, 32]⟩ : ByteArray) ++ letterT x.u ++ (⟨#[46]⟩ : ByteArray))) p0 (by first | omega | (simp only [ByteArray.size_append]; omega)))
        clear bz0 bz1
        have hT : x.er.textT ss = (⟨#[97, 108, 108, 32]⟩ : ByteArray) ++ letterT x.u ++ (⟨#[46]⟩ : ByteArray) ++ p0 := by
          rw [HT.out]
          show nodeT ss 12 x.k x.u x.v P = _
          simp only [nodeT, Int.reduceEq, if_true, if_false, hp0]
        have HTT := Lib.hid hT
        clear hT
        go_wp2_with fail
        go_quiet (first | (go_at_call 86; first | exact Calls.quiet_of_same (HLU.out _) | exact Calls.quiet_of_same (HLV.out _)))
        go_wp2_with fail
        go_ret
        exact ⟨by rw [HTT.out]; rfl, by first | exact below_draws HFIN.out _ | exact Below.drew HFIN.out⟩
end Go.Proofs.YtplchhahjmoodaaGreatDoor
