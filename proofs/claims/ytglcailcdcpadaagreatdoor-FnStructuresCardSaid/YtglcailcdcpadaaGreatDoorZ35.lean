/-
  The model's text of a structure, as a whole.
-/
import Derived.Test.YtglcailcdcpadaaGreatDoorZ29
namespace Go.Proofs.YtglcailcdcpadaaGreatDoor
open Go Go.RowKit Go.ChangeShapes Go.WideShapes Go.ChangeAt

theorem nodesST_at {x : St} {k : Nat} (hk : k < x.ns.length) : nodesST x.body (k + 1) = nodesST x.body k ++ [nodeST x.ns[k].body (partE x.ns.length x.zs k)] := by
  rw [nodesST_succ]
  have e1 : x.body.1.getD k (([], []), 0, 0) = x.ns[k].body := by
    show (x.ns.map Nd.body).getD k _ = _
    simp [hk]
  have e2 : x.body.1.length = x.ns.length := by simp [St.body]
  rw [e1, e2]
  rfl
set_option maxRecDepth 100000 in
set_option maxHeartbeats 1600000 in
theorem specStText (sa : Option Addr) (sc : Nat) (ss : List ByteArray) (x : St) (w : World) (hs : ss.length ≤ maxLen) (hws : ∀ s ∈ ss, s.size ≤ maxLen) (hrow : Row w w.heap.size sa (strVals ss)) (h : Small x.body) (hat : x.At w) :
    Calls Tryz.prog 19 #[.slice sa ss.length sc, x.v] w (GaveX (.string (stT ss x.body)) w) := by
  obtain ⟨i0, hi, hz0, hz1, hz2⟩ := info_parts strInfoSS
  have hbn : x.body.1.length = x.ns.length := by simp [St.body]
  have HAT := Lib.hid (fun (W : World) (h : Below w.heap.size w W) => And.intro (hat.below h) ((hrow.below h).grow h.size))
  have hsl := hs
  unfold maxLen at hsl
  have hnl := h.n1
  have H := Lib.hid h
  obtain ⟨r, hr⟩ : ∃ r, stT ss x.body = r := ⟨_, rfl⟩
  rw [hr]
  have HR := Lib.hid hr
  have HBN := Lib.hid hbn
  clear hat hrow hr h hbn
  obtain ⟨W0, hW0, hb0, hs0, hA0⟩ := one_box2 w (.slice x.a x.ns.length x.ca) (.slice x.b x.zs.length x.cb) 27
  have HA := Lib.hid (fun (W : World) (h : Below W0.heap.size W0 W) => And.intro (hA0.keep hs0 h) (hb0.trans (h.mono hb0.size)))
  obtain ⟨c0, c1⟩ := hA0
  go_enter Tryz.func19, Tryz.ntmps19
  go_wp2_with fail
  clear hW0
  refine (specAreVars sa sc ss _ hs hws (HAT.out _ hb0).2).mono ?_
  rintro e w1 ⟨rfl, rfl⟩
  cases hg : goodVars ss with
  | false =>
    have HE := Lib.hid (show r = ⟨#[]⟩ by rw [← HR.out]; exact stT_no (by rw [hg]; rfl))
    clear hg
    go_wp2
    go_ret
    exact ⟨by rw [HE.out]; rfl, hb0⟩
  | true =>
  have HG := Lib.hid hg
  clear hg
  go_wp2_with fail
  refine (specIsStructure (ss.length : Int) x W0 H.out (HAT.out _ hb0).1).mono ?_
  rintro e w2 ⟨rfl, hb2⟩
  clear c0 c1
  obtain ⟨⟨c0, c1⟩, hB2⟩ := HA.out _ hb2
  cases hst : stB (ss.length : Int) x.body with
  | false =>
    have HE := Lib.hid (show r = ⟨#[]⟩ by rw [← HR.out]; exact stT_no (by rw [hst, Bool.and_false]))
    clear hst
    go_wp2
    go_ret
    exact ⟨by rw [HE.out]; rfl, hB2⟩
  | true =>
  have hok := stOk hst
  have hboth : (goodVars ss && stB (ss.length : Int) x.body) = true := by rw [HG.out, hst]; rfl
  have HBOTH := Lib.hid hboth
  have hv4 := hok.v4
  have hn10 := hok.n10
  have HSQ := Lib.hid hok.sq
  have HEACH := Lib.hid hok.each
  have htot := nodes_total hok
  have hjl := jn_length (nodesST x.body x.ns.length) ⟨#[32]⟩
  have hsep : (⟨#[32]⟩ : ByteArray).size = 1 := rfl
  rw [nodesST_length, hsep] at hjl
  clear hst hboth hok
  go_wp2
  clear c0 c1
  go_loopw [5, 6] (fun v i wr => ∃ k : Nat, k ≤ x.ns.length ∧ i = .int .i64 k ∧ wr.ownsRow w2.heap.size 9 1 v k (strVals (nodesST x.body k)) ∧ Below w2.heap.size w2 wr) (fun _ i _ => x.ns.length - (intOf i).toNat)
  case atStart => exact ⟨0, Nat.zero_le _, rfl, World.ownsRow_made w2 #[] 0 (Nat.le_refl _) (Nat.zero_le _) rfl, (Below.refl _ _).alloc (Nat.le_refl _) _⟩
  case round =>
    obtain ⟨k, hk, rfl, hown, hbw⟩ := hrel
    obtain ⟨la, lc, rfl, hlc⟩ := own_shapeS hown
    obtain ⟨⟨d0, d1⟩, hB⟩ := HA.out _ (hb2.trans (hbw.mono hb2.size))
    by_cases hlt : k < x.ns.length
    · have HNX := Lib.hid (nodesST_at hlt)
      have hy := HEACH.out _ (List.getElem_mem hlt)
      have HO := Lib.hid hown
      clear hown
      go_wp2_with fail
      have hC := specNodeText x k wr hlt hn10 HSQ.out (by omega) (by omega) (HAT.out _ hB).1
      generalize nodeST x.ns[k].body (partE x.ns.length x.zs k) = T at *
      refine hC.mono ?_
      clear hC
      rintro e w5 ⟨rfl, hb5⟩
      have HO5 := Lib.hid (own_keeps HO.out hb5)
      have hbw5 := hbw.trans (hb5.mono hbw.size)
      have hle5 : w2.heap.size ≤ w5.heap.size := hbw5.size
      clear d0 d1 hb5 hy
      go_wp2_with (at_builtin; refine wpList_append_own _ rfl (.tmp 25) (.tmp 29) 33 rfl w2.heap.size 9 i0 (.string ⟨#[]⟩) 1 16 Tryz.underlying33 hi hz0 hz1 hz2 rfl (by decide) _ k _ rfl (HO5.out.alloc _) ⟨w5.heap.size, 0, none⟩ 1 1 [.string T] rfl rfl (oneCell_at _) (oneCell_str _) (by unfold maxLen; omega) (by omega) (Nat.le_trans hle5 (by simp)) ?_; intro v2 w6 hown2 hg2 _; have hb2' := own_below (HO5.out.alloc _) hg2 (Nat.le_trans hle5 (by simp)) (hbw5.alloc hle5 _); clear hg2)
      go_roundw
      case rel => exact ⟨k + 1, by omega, by go_num, by rw [HNX.out, strVals_snoc]; exact hown2, hb2'⟩
      case measure => simp [intOf]; omega
    · obtain rfl : k = x.ns.length := by omega
      have hrow := OwnIn.row (OwnIn.of hown)
      clear hown d1
      by_cases h0 : x.ns.length = 0
      · have HE := Lib.hid (show r = ⟨#[45]⟩ by rw [← HR.out]; exact stT_nil HBOTH.out (by rw [HBN.out]; exact h0))
        have hz : ((x.ns.length : Int) == 0) = true := by rw [h0]; rfl
        clear h0
        go_wp2
        go_ret
        exact ⟨by rw [HE.out]; rfl, hB⟩
      · have HE := Lib.hid (show r = ⟨(jn (nodesST x.body x.ns.length) ⟨#[32]⟩).toArray⟩ by rw [← HR.out, stT_some HBOTH.out (by rw [HBN.out]; exact h0), HBN.out])
        have hz : ((x.ns.length : Int) == 0) = false := beq_eq_false_iff_ne.2 (by omega)
        have hNLn := nodesST_length x.body x.ns.length
        have hsl2 : Value.slice la x.ns.length lc = Value.slice la (nodesST x.body x.ns.length).length lc := by rw [hNLn]
        have hz2 : (((nodesST x.body x.ns.length).length : Int) == 0) = false := by rw [hNLn]; exact hz
        have HNL := Lib.hid hNLn
        clear h0 hNLn
        go_wp2_with fail
        clear hsl2
        refine (specJoin la lc (nodesST x.body x.ns.length) ⟨#[32]⟩ _ (by rw [HNL.out]; unfold maxLen; omega) (by rw [HNL.out, hsep]; omega) hrow).mono ?_
        rintro e w6 ⟨rfl, hb6⟩
        go_wp2
        go_ret
        exact ⟨by rw [HE.out]; rfl, hB.trans (hb6.mono hB.size)⟩
end Go.Proofs.YtglcailcdcpadaaGreatDoor
