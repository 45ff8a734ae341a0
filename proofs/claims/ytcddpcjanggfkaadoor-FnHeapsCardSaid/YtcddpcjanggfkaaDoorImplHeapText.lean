/-
  The program's text of a heap.
-/
import Derived.Test.YtcddpcjanggfkaaDoorHeapWords
import Derived.Test.YtcddpcjanggfkaaDoorImplFormat
import Derived.Test.YtcddpcjanggfkaaDoorImplJoin
import Derived.Test.YtcddpcjanggfkaaDoorImplNames
import Derived.Test.YtcddpcjanggfkaaDoorImplIsHeap
namespace Go.Proofs.YtcddpcjanggfkaaDoor
open Go Go.RowKit

theorem strInfoH : (Tryd.prog.info? 9).map (fun i => (i.zero, i.size, i.bytes)) = some (some (.string ⟨#[]⟩), 1, 16) := by kernel_rfl
theorem implCellText (c : Int) (h0 : -9223372036854775808 ≤ c) (h1 : c ≤ 9223372036854775807) (w : World) (hp : Pows w) : Calls Tryd.prog 51 #[.int .i64 c] w (GaveX (.string (cellT c)) w) := by
  by_cases h : c = -1
  · subst h
    go_enter Tryd.func51, Tryd.ntmps51
    go_wp2
    go_ret
    exact ⟨rfl, Below.refl _ _⟩
  · have hd : (c == -1) = false := by simpa using h
    have hc : cellT c = ⟨(Lib.itoa c).toArray⟩ := by rw [cellT, if_neg h]
    go_enter Tryd.func51, Tryd.ntmps51
    go_wp2_with fail
    refine (implFormat c h0 h1 _ hp).mono ?_
    rintro e w1 ⟨rfl, hb1⟩
    go_wp2
    go_ret
    exact ⟨by rw [hc]; rfl, hb1⟩

set_option maxRecDepth 100000 in
set_option maxHeartbeats 3200000 in
theorem implHeapText (sa : Option Addr) (sc : Nat) (ss : List ByteArray) (a b : Option Addr) (ca cb : Nat) (vs zs : List Int) (w : World) (hs : ss.length ≤ maxLen) (hws : ∀ s ∈ ss, s.size ≤ maxLen) (hrow : Row w w.heap.size sa (strVals ss)) (hv : vs.length ≤ maxLen) (hz : zs.length ≤ maxLen) (h : HeapAt w a b vs zs) (hP : Pows w) :
    Calls Tryd.prog 21 #[.slice sa ss.length sc, heV a vs.length ca b zs.length cb] w (GaveX (.string (heapT ss vs zs)) w) := by
  obtain ⟨i0, hi, hz0, hz1, hz2⟩ := info_parts strInfoH
  have hs' := hs
  unfold maxLen at hs'
  have hat : ∀ W, Below w.heap.size w W → HeapAt W a b vs zs ∧ Row W W.heap.size sa (strVals ss) ∧ Pows W := fun W hb => ⟨h.below hb (Nat.le_refl _), (hrow.below hb).grow hb.size, hP.keeps hb⟩
  have HAT := Lib.hid hat
  clear hat h hrow hP
  go_enter Tryd.func21, Tryd.ntmps21
  go_wp2_with fail
  obtain ⟨W0, hW0, hb0, hs0, hA0⟩ := one_box2 w (.slice a vs.length ca) (.slice b zs.length cb) 26
  rw [hW0]
  clear hW0
  have hS : ∀ W, Below W0.heap.size W0 W → Box2 W w.heap.size (.slice a vs.length ca) (.slice b zs.length cb) ∧ Below w.heap.size w W := fun W hb => ⟨hA0.keep hs0 hb, hb0.trans (hb.mono hb0.size)⟩
  have HS := Lib.hid hS
  clear hS hA0
  refine (implAreVars sa sc ss _ hs hws (HAT.out _ hb0).2.1).mono ?_
  rintro e w1 ⟨rfl, hb1⟩
  obtain ⟨⟨c0, c1⟩, hB1⟩ := HS.out _ hb1
  cases hg : goodVars ss with
  | false =>
    have hf := Lib.hid (heapT_no (ss := ss) (vs := vs) (zs := zs) (by simp [heapOk, hg]))
    go_wp2
    go_ret
    exact ⟨by rw [hf.out]; rfl, hB1⟩
  | true =>
    go_wp2_with fail
    refine (implIsHeap (ss.length : Int) a b ca cb vs zs _ hv hz (HAT.out _ hB1).1).mono ?_
    rintro e w2 ⟨rfl, hb2⟩
    have hb2 := hb1.trans (hb2.mono hb1.size)
    clear c0 c1
    obtain ⟨⟨c0, c1⟩, hB2⟩ := HS.out _ hb2
    cases hh : heapB (ss.length : Int) vs zs with
    | false =>
      have hf := Lib.hid (heapT_no (ss := ss) (vs := vs) (zs := zs) (by simp [heapOk, hh]))
      go_wp2
      go_ret
      exact ⟨by rw [hf.out]; rfl, hB2⟩
    | true =>
      have hok : heapOk ss vs zs = true := by simp [heapOk, hg, hh]
      have hf := Lib.hid (heapT_yes hok)
      have hT := Lib.hid (textOk hok)
      have hl1 := hT.out.len
      have hl2 := hT.out.same
      have hl3 := hT.out.cells
      clear hg hh hok hb1 hB1
      go_wp2
      clear c0 c1
      go_loopw [5, 23] (fun v i wr => ∃ k : Nat, k ≤ vs.length ∧ i = .int .i64 k ∧ wr.ownsRow w2.heap.size 9 1 v k (strVals (partsV ss vs k)) ∧ Below w2.heap.size w2 wr) (fun _ i _ => vs.length - (intOf i).toNat)
      case atStart => exact ⟨0, Nat.zero_le _, rfl, World.ownsRow_nil _ _ _ _, Below.refl _ _⟩
      case round =>
        obtain ⟨k, hk, rfl, hown, hb⟩ := hrel
        obtain ⟨la, lc, rfl, hlc⟩ := own_shape hown
        have hB := hB2.trans (hb.mono hB2.size)
        have h2 := HAT.out _ hB
        by_cases hlt : k < vs.length
        · have hlt' : k < ss.length := by omega
          obtain ⟨bv, ov, rfl, hbv, hcv⟩ := h2.1.v k _ (intVals_at vs k hlt)
          obtain ⟨bs, os, rfl, hbs, hcs⟩ := h2.2.1 k (.string ss[k]) (by simp [strVals, hlt'])
          have hnx := partsV_next ss vs k hlt' hlt
          have hsz := hT.out.size k hlt'
          have hcb := hT.out.v k hlt
          have hcs' : wr.drew.cell? ⟨bs, os + k, none⟩ = some (.string ss[k]) := hcs
          generalize vs[k] = c at *
          generalize ss[k] = s at *
          have hcz := cellT_size c (by omega)
          have q1 := fun W => run_string_add_sum (P := Tryd.prog) W s ⟨#[61]⟩ (by rw [show (⟨#[61]⟩ : ByteArray).size = 1 from rfl]; omega)
          have q2 := fun W => run_string_add_sum (P := Tryd.prog) W (s ++ ⟨#[61]⟩) (cellT c) (by rw [ByteArray.size_append, show (⟨#[61]⟩ : ByteArray).size = 1 from rfl]; omega)
          have hpart : s ++ ⟨#[61]⟩ ++ cellT c = partV s c := rfl
          rw [hpart] at q2
          have HNX := Lib.hid hnx
          have HO := Lib.hid (own_drew hown)
          have HB := Lib.hid hb
          have hpw := h2.2.2.keeps (Below.drew (Below.refl wr.heap.size wr))
          have hbss : bs < wr.heap.size := hbs
          clear hnx hown hb h2 hpart
          go_wp2
          go_region_law
            (first
              | (go_simp; go_at_call 51; (with_reducible refine (implCellText c (by omega) (by omega) _ hpw).mono ?_); rintro e w5 ⟨rfl, hb5⟩; have O5 := own_keeps HO.out hb5; have s5 := (hb5.cell (p := ⟨bs, os + k, none⟩) hbss).trans hcs'; have z5 := hb5.size)
              | (refine step_append_lies _ rfl (.tmp 28) (.tmp 37) 36 rfl w2.heap.size 9 i0 (.string ⟨#[]⟩) 1 16 Tryd.underlying36 hi hz0 hz1 hz2 rfl (by decide) (.slice la k lc) k (strVals (partsV ss vs k)) ?_ (O5.alloc _) ⟨w5.heap.size, 0, none⟩ 1 1 [.string (partV s c)] ?_ rfl ?_ ?_ (by omega) ?_ ?_ ?_ _ rfl ?_
                 · simp [Act.eval]
                 · simp [Act.eval]
                 · exact oneCell_at (w := w5) _
                 · exact oneCell_str _
                 · unfold maxLen; omega
                 · omega
                 · exact Nat.le_trans (Nat.le_trans HB.out.size z5) (by simp)
                 intro g9 cap9 w9 hown9 hg9 hat9 hlt9
                 have hb9 := own_below (O5.alloc _) hg9 (Nat.le_trans (Nat.le_trans HB.out.size z5) (by simp)) (((HB.out.trans ((Below.drew (Below.refl wr.heap.size wr)).mono HB.out.size)).trans (hb5.mono HB.out.size)).alloc (Nat.le_trans HB.out.size z5) _)))
          all_goals
            go_wp2
            go_roundw
            case rel => first | exact ⟨k + 1, by omega, by go_num, (by rw [HNX.out, strVals_snoc]; exact hown9), hb9⟩ | ((repeat apply Exists.intro); exact ⟨⟨k + 1, by omega, by go_num, (by rw [HNX.out, strVals_snoc]; exact hown9), hb9⟩, rfl⟩)
            case measure => simp [intOf]; omega
        · have hk' : k = vs.length := by omega
          subst hk'
          rw [hl2] at hown
          have hB := hB2.trans (hb.mono hB2.size)
          obtain ⟨⟨c0, c1⟩, _⟩ := HS.out _ (hb2.trans (hb.mono hb2.size))
          have hv0 : Value.slice la vs.length lc = .slice la (ss.length + 0) lc := by rw [hl2]; rfl
          have hown0 : wr.ownsRow w2.heap.size 9 1 (.slice la vs.length lc) (ss.length + 0) (strVals (partsV ss vs ss.length ++ partsC zs 0)) := by
            simpa [partsC, hl2] using hown
          clear hown hv0
          go_wp2
          clear c0 c1 hl2
          go_loopw [5, 43] (fun v i wr => ∃ k : Nat, k ≤ zs.length ∧ i = .int .i64 k ∧ wr.ownsRow w2.heap.size 9 1 v (ss.length + k) (strVals (partsV ss vs ss.length ++ partsC zs k)) ∧ Below w2.heap.size w2 wr) (fun _ i _ => zs.length - (intOf i).toNat)
          case atStart => exact ⟨0, Nat.zero_le _, rfl, hown0, hb⟩
          case round =>
            clear hown0 hb hB h2 hlc
            obtain ⟨k, hk, rfl, hown, hb⟩ := hrel
            obtain ⟨la, lc, rfl, hlc⟩ := own_shape hown
            have hB := hB2.trans (hb.mono hB2.size)
            have h2 := HAT.out _ hB
            by_cases hlt : k < zs.length
            · obtain ⟨bv, ov, rfl, hbv, hcv⟩ := h2.1.z k _ (intVals_at zs k hlt)
              have hnx := partsC_next zs k hlt
              have hcb := hT.out.z k hlt
              generalize zs[k] = c at *
              have hcz := cellT_size c (by omega)
              have hkz := Lib.itoa_length_le (k : Int) (by omega) (by omega)
              have q1 := fun W => run_string_add_sum (P := Tryd.prog) W ⟨(Lib.itoa (k : Int)).toArray⟩ ⟨#[62]⟩ (by show (Lib.itoa (k : Int)).length + 1 ≤ _; omega)
              have q2 := fun W => run_string_add_sum (P := Tryd.prog) W ((⟨(Lib.itoa (k : Int)).toArray⟩ : ByteArray) ++ ⟨#[62]⟩) (cellT c) (by rw [ByteArray.size_append]; show (Lib.itoa (k : Int)).length + 1 + _ ≤ _; omega)
              have hpart : (⟨(Lib.itoa (k : Int)).toArray⟩ : ByteArray) ++ ⟨#[62]⟩ ++ cellT c = partC k c := rfl
              rw [hpart] at q2
              have HNX := Lib.hid hnx
              have HO := Lib.hid hown
              have hpw := h2.2.2
              clear hnx hown h2 hpart
              go_wp2_with fail
              refine (implFormat (k : Int) (by omega) (by omega) _ hpw).mono ?_
              rintro e w5 ⟨rfl, hb5⟩
              go_wp2_with fail
              refine (implCellText c (by omega) (by omega) _ (hpw.keeps hb5)).mono ?_
              rintro e w6 ⟨rfl, hb6⟩
              have hb56 := hb5.trans (hb6.mono hb5.size)
              have HO6 := Lib.hid (own_keeps HO.out hb56)
              have hb26 := hb.trans (hb56.mono hb.size)
              have hz6 : w2.heap.size ≤ w6.heap.size := hb26.size
              clear hb5 hb6 HO
              go_wp2_with (first
                | (at_builtin; refine wpList_append_own _ rfl (.tmp 48) (.tmp 55) 36 rfl w2.heap.size 9 i0 (.string ⟨#[]⟩) 1 16 Tryd.underlying36 hi hz0 hz1 hz2 rfl (by decide) _ (ss.length + k) _ rfl (HO6.out.alloc _) ⟨w6.heap.size, 0, none⟩ 1 1 [.string (partC k c)] rfl rfl (oneCell_at _) (oneCell_str _) (by unfold maxLen; omega) (by omega) (by simp; omega) ?_; intro v2 w7 hown2 hg2 _; have hb7 := own_below (HO6.out.alloc _) hg2 (by simp; omega) (hb26.alloc hz6 _); clear hg2)
                | fail)
              go_roundw
              case rel => first | exact ⟨k + 1, by omega, by go_num, (by rw [HNX.out, ← List.append_assoc, strVals_snoc]; exact hown2), hb7⟩ | ((repeat apply Exists.intro); exact ⟨⟨k + 1, by omega, by go_num, (by rw [HNX.out, ← List.append_assoc, strVals_snoc]; exact hown2), hb7⟩, rfl⟩)
              case measure => simp [intOf]; omega
            · have hk' : k = zs.length := by omega
              subst hk'
              have hR := Row.owned hown
              have htot := parts_total hT.out
              have hplen : (partsV ss vs ss.length ++ partsC zs zs.length).length = ss.length + zs.length := by rw [List.length_append, partsV_length, partsC_length]
              generalize hP : partsV ss vs ss.length ++ partsC zs zs.length = parts at *
              clear hown h2
              rw [← hplen] at hlc
              go_wp2_with fail
              rw [← hplen]
              refine (implJoin la lc parts ⟨#[32]⟩ _ hlc (by omega) (by rw [show (⟨#[32]⟩ : ByteArray).size = 1 from rfl]; omega) hR).mono ?_
              rintro e w9 ⟨rfl, hb9⟩
              have hB9 := hB.trans (hb9.mono hB.size)
              go_wp2
              go_ret
              exact ⟨by rw [hf.out]; rfl, hB9⟩
end Go.Proofs.YtcddpcjanggfkaaDoor
