/-
  The model's text of a heap.
-/
import Derived.Test.YtcddpcjanggfkaaDoorHeapWords
import Derived.Test.YtcddpcjanggfkaaDoorSpecFormat
import Derived.Test.YtcddpcjanggfkaaDoorSpecJoin
import Derived.Test.YtcddpcjanggfkaaDoorSpecIsHeap
import Derived.Deep.RegionLaw
import Derived.Deep.AppendLies
namespace Go.Proofs.YtcddpcjanggfkaaDoor
open Go Go.RowKit

theorem strInfoG : (Tryd.prog.info? 9).map (fun i => (i.zero, i.size, i.bytes)) = some (some (.string ⟨#[]⟩), 1, 16) := by kernel_rfl
theorem specCellText (c : Int) (h0 : -1 ≤ c) (h1 : c ≤ 9223372036854775807) (w : World) : Calls Tryd.prog 55 #[.int .i64 c] w (GaveX (.string (cellT c)) w) := by
  by_cases h : c = -1
  · subst h
    go_enter Tryd.func55, Tryd.ntmps55
    go_wp2
    go_ret
    exact ⟨rfl, Below.refl _ _⟩
  · have hd : ¬ c < 0 := by omega
    have hc : cellT c = ⟨(Lib.itoa c).toArray⟩ := by rw [cellT, if_neg h]
    go_enter Tryd.func55, Tryd.ntmps55
    go_wp2_with fail
    refine (specFormat c (by omega) h1 _).mono ?_
    rintro e w1 ⟨rfl, hb1⟩
    go_wp2
    go_ret
    exact ⟨by rw [hc]; rfl, hb1⟩

set_option maxRecDepth 100000 in
set_option maxHeartbeats 3200000 in
theorem specHeapText (sa : Option Addr) (sc : Nat) (ss : List ByteArray) (a b : Option Addr) (ca cb : Nat) (vs zs : List Int) (w : World) (hs : ss.length ≤ maxLen) (hws : ∀ s ∈ ss, s.size ≤ maxLen) (hrow : Row w w.heap.size sa (strVals ss)) (hv : vs.length ≤ maxLen) (hz : zs.length ≤ maxLen) (h : HeapAt w a b vs zs) :
    Calls Tryd.prog 22 #[.slice sa ss.length sc, heV a vs.length ca b zs.length cb] w (GaveX (.string (heapT ss vs zs)) w) := by
  obtain ⟨i0, hi, hz0, hz1, hz2⟩ := info_parts strInfoG
  have hs' := hs
  unfold maxLen at hs'
  have hat : ∀ W, Below w.heap.size w W → HeapAt W a b vs zs ∧ Row W W.heap.size sa (strVals ss) := fun W hb => ⟨h.below hb (Nat.le_refl _), (hrow.below hb).grow hb.size⟩
  have HAT := Lib.hid hat
  clear hat h hrow
  go_enter Tryd.func22, Tryd.ntmps22
  go_wp2_with fail
  obtain ⟨W0, hW0, hb0, hs0, hA0⟩ := one_box2 w (.slice a vs.length ca) (.slice b zs.length cb) 26
  rw [hW0]
  clear hW0
  have hS : ∀ W, Below W0.heap.size W0 W → Box2 W w.heap.size (.slice a vs.length ca) (.slice b zs.length cb) ∧ Below w.heap.size w W := fun W hb => ⟨hA0.keep hs0 hb, hb0.trans (hb.mono hb0.size)⟩
  have HS := Lib.hid hS
  obtain ⟨c0, c1⟩ := hA0
  clear hS
  refine (specAreVars sa sc ss _ hs hws (HAT.out _ hb0).2).mono ?_
  rintro e w1 ⟨rfl, rfl⟩
  cases hg : goodVars ss with
  | false =>
    have hf := Lib.hid (heapT_no (ss := ss) (vs := vs) (zs := zs) (by simp [heapOk, hg]))
    go_wp2
    go_ret
    exact ⟨by rw [hf.out]; rfl, hb0⟩
  | true =>
    go_wp2_with fail
    refine (specIsHeap (ss.length : Int) a b ca cb vs zs _ hv hz (HAT.out _ hb0).1).mono ?_
    rintro e w2 ⟨rfl, hb2⟩
    clear c0 c1
    obtain ⟨⟨c0, c1⟩, hB2⟩ := HS.out _ hb2
    cases hh : heapB (ss.length : Int) vs zs with
    | false =>
      have hf := Lib.hid (heapT_no (ss := ss) (vs := vs) (zs := zs) (by simp [heapOk, hh]))
      go_wp2
      go_ret
      exact ⟨by rw [hf.out]; rfl, hB2⟩
    | true =>
      have hok : heapOk ss vs zs = true := by simp [heapOk, hg, hh]
      have hf := Lib.hid (heapT_yes hok)
      have hT := Lib.hid (textOk hok)
      have hl1 := hT.out.len
      have hl3 := hT.out.cells
      clear hg hh hok
      go_wp2
      clear c0 c1
      go_loopw [5, 6] (fun v i wr => ∃ k : Nat, k ≤ ss.length ∧ i = .int .i64 k ∧ wr.ownsRow w2.heap.size 9 1 v k (strVals (partsV ss vs k)) ∧ Below w2.heap.size w2 wr) (fun _ i _ => ss.length - (intOf i).toNat)
      case atStart => exact ⟨0, Nat.zero_le _, rfl, World.ownsRow_made w2 #[] 0 (Nat.le_refl _) (Nat.zero_le _) rfl, (Below.refl _ _).alloc (Nat.le_refl _) _⟩
      case round =>
        obtain ⟨k, hk, rfl, hown, hb⟩ := hrel
        obtain ⟨la, lc, rfl, hlc⟩ := own_shape hown
        have hB := hB2.trans (hb.mono hB2.size)
        have h2 := HAT.out _ hB
        have hb0r := hb2.trans (hb.mono hb2.size)
        by_cases hlt' : k < ss.length
        · have hlt : k < vs.length := by have := hT.out.same; omega
          have hltI : (k : Int) < (vs.length : Int) := by omega
          obtain ⟨bv, ov, rfl, hbv, hcv⟩ := h2.1.v k _ (intVals_at vs k hlt)
          obtain ⟨bs, os, rfl, hbs, hcs⟩ := h2.2 k (.string ss[k]) (by simp [strVals, hlt'])
          have hnx := partsV_next ss vs k hlt' hlt
          have hsz := hT.out.size k hlt'
          have hcb := hT.out.v k hlt
          have hcs' : wr.drew.cell? ⟨bs, os + k, none⟩ = some (.string ss[k]) := hcs
          have hcv' : wr.drew.cell? ⟨bv, ov + k, none⟩ = some (.int .i64 vs[k]) := hcv
          obtain ⟨⟨x0, x1⟩, _⟩ := HS.out _ (Below.drew hb0r)
          obtain ⟨⟨y0, y1⟩, _⟩ := HS.out _ hb0r
          generalize hcvv : vs[k] = c at *
          generalize ss[k] = s at *
          have hcz := cellT_size c (by omega)
          have q1 := fun W => run_string_add_sum (P := Tryd.prog) W s ⟨#[61]⟩ (by rw [show (⟨#[61]⟩ : ByteArray).size = 1 from rfl]; omega)
          have q2 := fun W => run_string_add_sum (P := Tryd.prog) W (s ++ ⟨#[61]⟩) (cellT c) (by rw [ByteArray.size_append, show (⟨#[61]⟩ : ByteArray).size = 1 from rfl]; omega)
          have hpart : s ++ ⟨#[61]⟩ ++ cellT c = partV s c := rfl
          rw [hpart] at q2
          have HNX := Lib.hid hnx
          have HO := Lib.hid (own_drew hown)
          have HB := Lib.hid hb
          have hbss : bs < wr.heap.size := hbs
          clear hnx hown hb h2 hpart hcvv
          go_wp2
          go_region_law
            (first
              | (go_simp; go_at_call 55; (with_reducible refine (specCellText c (by omega) (by omega) _).mono ?_); rintro e w5 ⟨rfl, hb5⟩; have O5 := own_keeps HO.out hb5; have s5 := (hb5.cell (p := ⟨bs, os + k, none⟩) hbss).trans hcs'; have z5 := hb5.size)
              | (refine step_append_lies _ rfl (.tmp 25) (.tmp 38) 36 rfl w2.heap.size 9 i0 (.string ⟨#[]⟩) 1 16 Tryd.underlying36 hi hz0 hz1 hz2 rfl (by decide) (.slice la k lc) k (strVals (partsV ss vs k)) ?_ (O5.alloc _) ⟨w5.heap.size, 0, none⟩ 1 1 [.string (partV s c)] ?_ rfl ?_ ?_ (by omega) ?_ ?_ ?_ _ rfl ?_
                 · simp [Act.eval]
                 · simp [Act.eval]
                 · exact oneCell_at (w := w5) _
                 · exact oneCell_str _
                 · unfold maxLen; omega
                 · omega
                 · exact Nat.le_trans (Nat.le_trans HB.out.size z5) (by simp)
                 intro g9 cap9 w9 hown9 hg9 hat9 hlt9
                 have hb9 := own_below (O5.alloc _) hg9 (Nat.le_trans (Nat.le_trans HB.out.size z5) (by simp)) (((HB.out.trans ((Below.drew (Below.refl wr.heap.size wr)).mono HB.out.size)).trans (hb5.mono HB.out.size)).alloc (Nat.le_trans HB.out.size z5) _)))
          all_goals
            go_wp2
            go_roundw
            case rel => first | exact ⟨k + 1, by omega, by go_num, (by rw [HNX.out, strVals_snoc]; exact hown9), hb9⟩ | ((repeat apply Exists.intro); exact ⟨⟨k + 1, by omega, by go_num, (by rw [HNX.out, strVals_snoc]; exact hown9), hb9⟩, rfl⟩)
            case measure => simp [intOf]; omega
        · have hk' : k = ss.length := by omega
          subst hk'
          have hown0 : wr.ownsRow w2.heap.size 9 1 (.slice la ss.length lc) (ss.length + 0) (strVals (partsV ss vs ss.length ++ partsC zs 0)) := by
            simpa [partsC] using hown
          clear hown h2
          go_wp2
          go_loopw [5, 7] (fun v i wr => ∃ k : Nat, k ≤ zs.length ∧ i = .int .i64 k ∧ wr.ownsRow w2.heap.size 9 1 v (ss.length + k) (strVals (partsV ss vs ss.length ++ partsC zs k)) ∧ Below w2.heap.size w2 wr) (fun _ i _ => zs.length - (intOf i).toNat)
          case atStart => exact ⟨0, Nat.zero_le _, rfl, hown0, hb⟩
          case round =>
            clear hown0 hb hB hlc hb0r
            obtain ⟨k, hk, rfl, hown, hb⟩ := hrel
            obtain ⟨la, lc, rfl, hlc⟩ := own_shape hown
            have hB := hB2.trans (hb.mono hB2.size)
            have h2 := HAT.out _ hB
            have hb0r := hb2.trans (hb.mono hb2.size)
            obtain ⟨⟨y0, y1⟩, _⟩ := HS.out _ hb0r
            by_cases hlt : k < zs.length
            · have hltI : (k : Int) < (zs.length : Int) := by omega
              obtain ⟨bv, ov, rfl, hbv, hcv⟩ := h2.1.z k _ (intVals_at zs k hlt)
              have hnx := partsC_next zs k hlt
              have hcb := hT.out.z k hlt
              have hcv' : wr.drew.cell? ⟨bv, ov + k, none⟩ = some (.int .i64 zs[k]) := hcv
              have hXX : ∀ W, Below wr.heap.size wr W → W.cell? ⟨w.heap.size, 0, none⟩ = some (.slice a vs.length ca) ∧ W.cell? ⟨w.heap.size, 1, none⟩ = some (.slice (some ⟨bv, ov, none⟩) zs.length cb) := fun W h => (HS.out _ (hb0r.trans (h.mono hb0r.size))).1
              obtain ⟨x0, x1⟩ := hXX _ (Below.drew (Below.refl _ _))
              generalize hzx : zs[k] = c at *
              have hcz := cellT_size c (by omega)
              have hkz := Lib.itoa_length_le (k : Int) (by omega) (by omega)
              have q1 := fun W => run_string_add_sum (P := Tryd.prog) W ⟨(Lib.itoa (k : Int)).toArray⟩ ⟨#[62]⟩ (by show (Lib.itoa (k : Int)).length + 1 ≤ _; omega)
              have q2 := fun W => run_string_add_sum (P := Tryd.prog) W ((⟨(Lib.itoa (k : Int)).toArray⟩ : ByteArray) ++ ⟨#[62]⟩) (cellT c) (by rw [ByteArray.size_append]; show (Lib.itoa (k : Int)).length + 1 + _ ≤ _; omega)
              have hpart : (⟨(Lib.itoa (k : Int)).toArray⟩ : ByteArray) ++ ⟨#[62]⟩ ++ cellT c = partC k c := rfl
              rw [hpart] at q2
              have HNX := Lib.hid hnx
              have HO := Lib.hid (own_drew hown)
              have HB := Lib.hid hb
              have HXX := Lib.hid hXX
              clear hnx hown h2 hpart hb hzx hXX
              go_wp2
              go_region_law
                (first
                  | (go_simp; go_at_call 56; (with_reducible refine (specFormat (k : Int) (by omega) (by omega) _).mono ?_); rintro e w5 ⟨rfl, hb5⟩; have O5 := own_keeps HO.out hb5; have v5 := (hb5.cell (p := ⟨bv, ov + k, none⟩) hbv).trans hcv'; have z5 := hb5.size; have H5 := (Below.drew (Below.refl wr.heap.size wr)).trans hb5; have x5 := HXX.out _ H5)
                  | (go_simp; go_at_call 55; (with_reducible refine (specCellText c (by omega) (by omega) _).mono ?_); rintro e w6 ⟨rfl, hb6⟩; have O6 := own_keeps O5 hb6; have H6 := H5.trans (hb6.mono H5.size); have z6 := H6.size)
                  | (refine step_append_lies _ rfl (.tmp 47) (.tmp 58) 36 rfl w2.heap.size 9 i0 (.string ⟨#[]⟩) 1 16 Tryd.underlying36 hi hz0 hz1 hz2 rfl (by decide) (.slice la (ss.length + k) lc) (ss.length + k) (strVals (partsV ss vs ss.length ++ partsC zs k)) ?_ (O6.alloc _) ⟨w6.heap.size, 0, none⟩ 1 1 [.string (partC k c)] ?_ rfl ?_ ?_ (by omega) ?_ ?_ ?_ _ rfl ?_
                     · simp [Act.eval]
                     · simp [Act.eval]
                     · exact oneCell_at (w := w6) _
                     · exact oneCell_str _
                     · unfold maxLen; omega
                     · omega
                     · exact Nat.le_trans (Nat.le_trans HB.out.size z6) (by simp)
                     intro g9 cap9 w9 hown9 hg9 hat9 hlt9
                     have hb9 := own_below (O6.alloc _) hg9 (Nat.le_trans (Nat.le_trans HB.out.size z6) (by simp)) ((HB.out.trans (H6.mono HB.out.size)).alloc (Nat.le_trans HB.out.size z6) _)))
              all_goals
                go_wp2
                go_roundw
                case rel => first | exact ⟨k + 1, by omega, by go_num, (by rw [HNX.out, ← List.append_assoc, strVals_snoc]; exact hown9), hb9⟩ | ((repeat apply Exists.intro); exact ⟨⟨k + 1, by omega, by go_num, (by rw [HNX.out, ← List.append_assoc, strVals_snoc]; exact hown9), hb9⟩, rfl⟩)
                case measure => simp [intOf]; omega
            · have hk' : k = zs.length := by omega
              subst hk'
              have hR := Row.owned hown
              have htot := parts_total hT.out
              have hplen : (partsV ss vs ss.length ++ partsC zs zs.length).length = ss.length + zs.length := by rw [List.length_append, partsV_length, partsC_length]
              generalize hP : partsV ss vs ss.length ++ partsC zs zs.length = parts at *
              clear hown h2
              go_wp2_with fail
              rw [← hplen]
              refine (specJoin la lc parts ⟨#[32]⟩ _ (by unfold maxLen; omega) (by rw [show (⟨#[32]⟩ : ByteArray).size = 1 from rfl]; omega) hR).mono ?_
              rintro e w9 ⟨rfl, hb9⟩
              have hB9 := hB.trans (hb9.mono hB.size)
              go_wp2
              go_ret
              exact ⟨by rw [hf.out]; rfl, hB9⟩
end Go.Proofs.YtcddpcjanggfkaaDoor
