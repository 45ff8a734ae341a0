/-
  The model's text of a structure.
-/
import Derived.Deep.RegionLaw
import Derived.Deep.AppendLies
import Derived.Test.YtglcailcdcpadaaGreatDoorZ19
import Derived.Test.YtglcailcdcpadaaGreatDoorZ21
import Derived.Test.YtglcailcdcpadaaGreatDoorZ07
namespace Go.Proofs.YtglcailcdcpadaaGreatDoor
open Go Go.RowKit Go.ChangeShapes Go.WideShapes Go.ChangeAt

theorem app_nilS (a : ByteArray) : a ++ (⟨#[]⟩ : ByteArray) = a := by
  apply ByteArray.ext
  simp
theorem strInfoSS : (Tryz.prog.info? 9).map (fun i => (i.zero, i.size, i.bytes)) = some (some (.string ⟨#[]⟩), 1, 16) := by kernel_rfl
theorem own_shapeS {w : World} {base e size n : Nat} {v : Value} {xs : List Value} (h : w.ownsRow base e size v n xs) : ∃ a c, v = .slice a n c ∧ n ≤ c := by
  rcases h.2 with ⟨rfl, rfl⟩ | ⟨g, cap, cur, rfl, _, _, hc, _⟩
  · exact ⟨_, _, rfl, Nat.le_refl _⟩
  · exact ⟨_, _, rfl, hc⟩
set_option maxHeartbeats 800000 in
theorem specValues (a : Option Addr) (cap : Nat) (zs : List Int) (w : World) (hn : zs.length ≤ 1048576) (hrow : Row w w.heap.size a (intVals zs)) :
    Calls Tryz.prog 101 #[.slice a zs.length cap] w fun e w' => e = .returned (.string (valT zs)) ∧ w' = w := by
  go_enter Tryz.func101, Tryz.ntmps101
  go_wp2
  go_loopw [3, 4] (fun s i wr => ∃ k : Nat, k ≤ zs.length ∧ i = .int .i64 k ∧ s = .string (valT (zs.take k)) ∧ wr = w) (fun _ i _ => zs.length - (intOf i).toNat)
  case atStart => exact ⟨0, Nat.zero_le _, rfl, rfl, rfl⟩
  case round =>
    obtain ⟨k, hk, rfl, rfl, rfl⟩ := hrel
    by_cases hlt : k < zs.length
    · obtain ⟨b, o, rfl, hbW, hc⟩ := hrow k (.int .i64 zs[k]) (intVals_at zs k hlt)
      have HNX := Lib.hid (valT_next zs k hlt)
      generalize zs[k] = z at *
      have h1 := valT_size (zs.take k)
      have h2 := textT_size z
      rw [List.length_take] at h1
      have hq := fun W => run_string_add_sum (P := Tryz.prog) W (valT (zs.take k)) (textT z) (by omega)
      rw [← HNX.out] at hq
      go_wp2_with fail
      refine (specTruthText z _).mono ?_
      rintro e w1 ⟨rfl, rfl⟩
      go_wp2
      go_roundw
      case rel => exact ⟨k + 1, by omega, by go_num, rfl, trivial⟩
      case measure => simp [intOf]; omega
    · have HE := Lib.hid (show valT (zs.take k) = valT zs by rw [List.take_of_length_le (by omega)])
      go_wp2
      go_ret
      exact ⟨by rw [← HE.out]; rfl, rfl⟩
theorem nextS_part {n k j : Nat} {zs : List Int} (hk : k < n) (hj : j < n) (hm : zs.length = n * n) : nextS n zs k j = (partE n zs k).getD j 0 := by
  have hlt : k * n + j < zs.length := by rw [hm]; exact at_pair hk hj
  rw [nextS_at hk hj hm hlt]
  unfold partE
  have : ((zs.drop (k * n)).take n)[j]? = some zs[k * n + j] := by
    rw [List.getElem?_take_of_lt hj, List.getElem?_drop]
    exact List.getElem?_eq_getElem hlt
  rw [List.getD_eq_getElem?_getD, this]
  rfl
theorem partE_length {n k : Nat} {zs : List Int} (hk : k < n) (hm : zs.length = n * n) : (partE n zs k).length = n := by
  have := square_le hk hm
  unfold partE
  rw [List.length_take, List.length_drop]
  omega
set_option maxRecDepth 100000 in
set_option maxHeartbeats 1600000 in
theorem specNodeText (x : St) (k : Nat) (w : World) (hk : k < x.ns.length) (hn10 : x.ns.length ≤ 10) (hlen : x.zs.length = x.ns.length * x.ns.length) (hv : x.ns[k].h.vs.length ≤ 4) (hz : x.ns[k].h.zs.length ≤ 4) (hat : x.At w) :
    Calls Tryz.prog 58 #[x.v, .int .i64 (k : Int)] w (GaveX (.string (nodeST x.ns[k].body (partE x.ns.length x.zs k))) w) := by
  obtain ⟨i0, hi, hz0, hz1, hz2⟩ := info_parts strInfoSS
  have hzl : x.zs.length ≤ 100 := by rw [hlen]; exact Nat.mul_le_mul hn10 hn10
  have HAT := Lib.hid (fun (W : World) (h : Below w.heap.size w W) => hat.below h)
  obtain ⟨ba, oa, ha, hba, hitem, hnd⟩ := hat.nodes.item k hk
  have hel := partE_length hk hlen
  have hnext := fun (j : Nat) (hj : j < x.ns.length) => nextS_part hk hj hlen
  have HND := Lib.hid (fun (W : World) (h : Below w.heap.size w W) => hnd.below h)
  obtain ⟨y, hy⟩ : ∃ y, x.ns[k] = y := ⟨_, rfl⟩
  rw [hy] at hitem hv hz HND ⊢
  clear hy hnd
  obtain ⟨es, hes⟩ : ∃ es, partE x.ns.length x.zs k = es := ⟨_, rfl⟩
  rw [hes] at hel hnext ⊢
  have HNEXT := Lib.hid hnext
  have HEL := Lib.hid hel
  have HLEN := Lib.hid hlen
  have hts := tgts_size es es.length (by omega)
  have hbelow := fun (j : Nat) (hj : j ≤ x.ns.length) => (tgts_size es j (by omega)).1
  have htl := total_le21 hts.2
  have hjl := jn_length (tgtsTo es es.length) ⟨#[44]⟩
  have htail := tailST_size (tgtsTo es es.length) (by omega) hts.2
  have hsep : (⟨#[44]⟩ : ByteArray).size = 1 := rfl
  have hst : (⟨#[42]⟩ : ByteArray).size = 1 := rfl
  have hgt : (⟨#[62]⟩ : ByteArray).size = 1 := rfl
  have hqu : (⟨#[63]⟩ : ByteArray).size = 1 := rfl
  rw [hsep] at hjl
  have v1 := valT_size y.h.vs
  have v2 := valT_size y.h.zs
  have v3 := textT_size y.s
  have HRES := Lib.hid (show nodeST y.body es = headST y.h.vs y.h.zs y.s y.m ++ tailST (tgtsTo es es.length) from rfl)
  have hhd := headST_size y.h.vs y.h.zs y.s y.m
  have q1 := fun W => run_string_add_sum (P := Tryz.prog) W (valT y.h.vs) (valT y.h.zs) (by omega)
  have q2 := fun W => run_string_add_sum (P := Tryz.prog) W (valT y.h.vs ++ valT y.h.zs) (textT y.s) (by rw [ByteArray.size_append]; omega)
  have q3 := fun W => run_string_add_sum (P := Tryz.prog) W (valT y.h.vs ++ valT y.h.zs ++ textT y.s) ⟨#[42]⟩ (by rw [ByteArray.size_append, ByteArray.size_append, hst]; omega)
  obtain ⟨p0, p1, p2, p3⟩ := hitem
  obtain ⟨a, ca, ns, bb, cb, zs⟩ := x
  simp only at ha p0 p1 p2 p3 hk hn10 hzl HNEXT HEL HLEN hbelow
  subst ha
  clear hat hnext hel hlen hes
  go_enter Tryz.func58, Tryz.ntmps58
  go_wp2_with fail
  obtain ⟨W0, hW0, hb0, hA0, hC0⟩ := two_boxL w [.slice (some ⟨ba, oa, none⟩) ns.length ca, .slice bb zs.length cb] [.slice y.h.a y.h.vs.length y.h.ca, .slice y.h.b y.h.zs.length y.h.cb, .int .i64 y.s, .int .i64 y.m] 27 56
  simp only [List.toArray] at hW0
  rw [hW0]
  clear hW0
  have c0 := hC0.c 0 _ rfl
  have c1 := hC0.c 1 _ rfl
  have c2 := hC0.c 2 _ rfl
  have c3 := hC0.c 3 _ rfl
  have HT1 := Lib.hid (fun n => specValues y.h.a y.h.ca y.h.vs (W0.drewN n) (by omega) (HND.out _ (below_draws hb0 n)).v)
  have HT2 := Lib.hid (fun n => specValues y.h.b y.h.cb y.h.zs (W0.drewN n) (by omega) (HND.out _ (below_draws hb0 n)).z)
  have ht3 : ∀ n, Calls Tryz.prog 102 #[.int .i64 y.s] (W0.drewN n) fun e w' => e = Ending.returned (.string (textT y.s)) ∧ w' = W0.drewN n := fun n => (specTruthText y.s (W0.drewN n)).mono (by rintro e w' ⟨rfl, rfl⟩; exact ⟨rfl, rfl⟩)
  have HT3 := Lib.hid ht3
  clear ht3
  go_quiet (first | (go_at_call 101; first | with_reducible exact Calls.quiet_of_same (HT1.out _) | with_reducible exact Calls.quiet_of_same (HT2.out _)) | (go_at_call 102; with_reducible exact Calls.quiet_of_same (HT3.out _)))
  clear HT1 HT2 HT3 q1 q2 c0 c1 c2
  have hB1 : Below w.heap.size w (W0.drewN nq) := below_draws hb0 nq
  obtain ⟨W1, hW1⟩ : ∃ W1, W0.drewN nq = W1 := ⟨_, rfl⟩
  have HSB := Lib.hid (show BoxL W1 w.heap.size [.slice (some ⟨ba, oa, none⟩) ns.length ca, .slice bb zs.length cb] by rw [← hW1]; exact hA0.below (below_draws (Below.refl _ _) nq))
  have hd3 : W1.cell? ⟨w.heap.size + 1, 3, none⟩ = some (.int .i64 y.m) := by rw [← hW1]; exact c3
  rw [hW1] at hB1 ⊢
  clear hW1 c3 hA0 hC0
  have HB1 := Lib.hid hB1
  have HS := Lib.hid (fun (W : World) (h : Below W1.heap.size W1 W) => And.intro (HSB.out.below h) (HB1.out.trans (h.mono HB1.out.size)))
  obtain ⟨hh, hhh⟩ : ∃ hh, headST y.h.vs y.h.zs y.s y.m = hh := ⟨_, rfl⟩
  rw [hhh] at hhd HRES
  obtain ⟨ts, hts0⟩ : ∃ ts, tgtsTo es es.length = ts := ⟨_, rfl⟩
  rw [hts0] at hts htl hjl htail HRES
  have HTS := Lib.hid hts0
  clear hts0
  have hsplit : ((y.m == 1) = true ∧ hh = valT y.h.vs ++ valT y.h.zs ++ textT y.s ++ ⟨#[42]⟩) ∨ ((y.m == 1) = false ∧ hh = valT y.h.vs ++ valT y.h.zs ++ textT y.s) := by
    rw [← hhh]
    unfold headST
    by_cases h1 : y.m = 1
    · exact .inl ⟨by simp [h1], by rw [if_pos h1]⟩
    · exact .inr ⟨by simp [h1], by rw [if_neg h1]⟩
  have hel' : ts.length ≤ 10 := by have := hts.1; have := HEL.out; omega
  have r1 := fun (s : ByteArray) (hs : s.size ≤ 20) W => run_string_add_sum (P := Tryz.prog) W s ⟨#[62]⟩ (by rw [hgt]; omega)
  have r2 := fun (s : ByteArray) (hs : s.size ≤ 20) W => run_string_add_sum (P := Tryz.prog) W (s ++ ⟨#[62]⟩) ⟨(jn ts ⟨#[44]⟩).toArray⟩ (by rw [ByteArray.size_append, hgt]; show s.size + 1 + (jn ts ⟨#[44]⟩).length ≤ _; omega)
  have hg2 : ∀ j (hj : j < ns.length), nextS ns.length zs (k : Int) (j : Int) = es.getD j 0 := HNEXT.out
  have HG2 := Lib.hid hg2
  have hd0 := HSB.out.c 0 _ rfl
  clear hg2 hB1
  rcases hsplit with ⟨hm, hhe⟩ | ⟨hm, hhe⟩
  all_goals
    have r3 := r1 hh (by omega)
    have r4 := r2 hh (by omega)
    have HHE := Lib.hid hhe
    rw [hhe] at r3 r4
    clear r1 r2 hhh
    go_wp2
    clear hd0 hd3
    go_loopw [7, 8] (fun v i wr => ∃ j : Nat, j ≤ ns.length ∧ i = .int .i64 j ∧ wr.ownsRow W1.heap.size 9 1 v (tgtsTo es j).length (strVals (tgtsTo es j)) ∧ Below W1.heap.size W1 wr) (fun _ i _ => ns.length - (intOf i).toNat)
    case atStart => exact ⟨0, Nat.zero_le _, rfl, World.ownsRow_made W1 #[] 0 (Nat.le_refl _) (Nat.zero_le _) rfl, (Below.refl _ _).alloc (Nat.le_refl _) _⟩
    case round =>
      obtain ⟨j, hj, rfl, hown, hbw⟩ := hrel
      obtain ⟨va, vc, rfl, hvc⟩ := own_shapeS hown
      obtain ⟨hbx, hB⟩ := HS.out _ hbw
      have d0 := hbx.c 0 _ rfl
      have d1 := hbx.c 1 _ rfl
      by_cases hlt : j < ns.length
      · have hnx := HG2.out j hlt
        have HNX := Lib.hid (tgtsTo_succ es j (by rw [HEL.out]; exact hlt))
        have hlen' := hbelow j (by omega)
        have hnk := numT_size j (by omega)
        have hnum : (⟨(Lib.itoa (j : Int)).toArray⟩ : ByteArray) = numT j := rfl
        have hgd : es.getD j 0 = es[j]'(by rw [HEL.out]; exact hlt) := by
          have : j < es.length := by rw [HEL.out]; exact hlt
          simp [this]
        rw [hgd] at hnx
        generalize es[j]'(by rw [HEL.out]; exact hlt) = z at *
        generalize tgtsTo es j = us at *
        have HO := Lib.hid hown
        have HZ := Lib.hid hnx
        clear hown hnx hgd hbx
        go_wp2_with fail
        refine (specNextOf (some ⟨ba, oa, none⟩) bb ca cb ns.length zs (k : Int) (j : Int) _ (by omega) (by unfold maxLen; omega) (HAT.out _ hB).next).mono ?_
        rw [HZ.out]
        rintro e w4 ⟨rfl, hb4⟩
        have HO4 := Lib.hid (own_keeps HO.out hb4)
        have hbw4 := hbw.trans (hb4.mono hbw.size)
        clear d0 d1 hb4 hbw
        by_cases h2 : z = 2
        · subst h2
          have HN2 := Lib.hid (show tgtsTo es (j + 1) = us ++ [numT j] by rw [HNX.out]; rfl)
          go_wp2_with fail
          refine (specFormat (j : Int) (by omega) (by omega) _).mono ?_
          rintro e w5 ⟨rfl, hb5⟩
          rw [hnum]
          have HO5 := Lib.hid (own_keeps HO4.out hb5)
          have hbw5 := hbw4.trans (hb5.mono hbw4.size)
          have hle5 : W1.heap.size ≤ w5.heap.size := hbw5.size
          clear hnum hb5
          go_wp2_with (at_builtin; refine wpList_append_own _ rfl (.tmp 44) (.tmp 47) 33 rfl W1.heap.size 9 i0 (.string ⟨#[]⟩) 1 16 Tryz.underlying33 hi hz0 hz1 hz2 rfl (by decide) _ us.length _ rfl (HO5.out.alloc _) ⟨w5.heap.size, 0, none⟩ 1 1 [.string (numT j)] rfl rfl (oneCell_at _) (oneCell_str _) (by unfold maxLen; omega) (by omega) (Nat.le_trans hle5 (by simp)) ?_; intro v2 w2 hown2 hg2 _; have hb2 := own_below (HO5.out.alloc _) hg2 (Nat.le_trans hle5 (by simp)) (hbw5.alloc hle5 _); clear hg2)
          go_roundw
          case rel => exact ⟨j + 1, by omega, by go_num, by rw [HN2.out, strVals_snoc, List.length_append]; exact hown2, hb2⟩
          case measure => simp [intOf]; omega
        · by_cases h1 : z = 1
          · subst h1
            have HN2 := Lib.hid (show tgtsTo es (j + 1) = us ++ [numT j ++ ⟨#[63]⟩] by rw [HNX.out]; rfl)
            have hq := fun W => run_string_add_sum (P := Tryz.prog) W (numT j) ⟨#[63]⟩ (by rw [hqu]; omega)
            go_wp2_with fail
            refine (specFormat (j : Int) (by omega) (by omega) _).mono ?_
            rintro e w5 ⟨rfl, hb5⟩
            rw [hnum]
            have HO5 := Lib.hid (own_keeps HO4.out hb5)
            have hbw5 := hbw4.trans (hb5.mono hbw4.size)
            have hle5 : W1.heap.size ≤ w5.heap.size := hbw5.size
            clear hnum hb5
            go_wp2_with (at_builtin; refine wpList_append_own _ rfl (.tmp 51) (.tmp 55) 33 rfl W1.heap.size 9 i0 (.string ⟨#[]⟩) 1 16 Tryz.underlying33 hi hz0 hz1 hz2 rfl (by decide) _ us.length _ rfl (HO5.out.alloc _) ⟨w5.heap.size, 0, none⟩ 1 1 [.string (numT j ++ ⟨#[63]⟩)] rfl rfl (oneCell_at _) (oneCell_str _) (by unfold maxLen; omega) (by omega) (Nat.le_trans hle5 (by simp)) ?_; intro v2 w2 hown2 hg2 _; have hb2 := own_below (HO5.out.alloc _) hg2 (Nat.le_trans hle5 (by simp)) (hbw5.alloc hle5 _); clear hg2)
            go_roundw
            case rel => exact ⟨j + 1, by omega, by go_num, by rw [HN2.out, strVals_snoc, List.length_append]; exact hown2, hb2⟩
            case measure => simp [intOf]; omega
          · have HN2 := Lib.hid (show tgtsTo es (j + 1) = us by rw [HNX.out, tgt1, if_neg h2, if_neg h1, List.append_nil])
            have e2 : (z == 2) = false := beq_eq_false_iff_ne.2 h2
            have e1 : (z == 1) = false := beq_eq_false_iff_ne.2 h1
            have HT := Lib.hid hbw4
            clear h1 h2 hnum hbw4
            go_wp2
            go_roundw
            case rel => exact ⟨j + 1, by omega, by go_num, by rw [HN2.out]; exact HO4.out, HT.out⟩
            case measure => simp [intOf]; omega
      · obtain rfl : j = ns.length := by omega
        have hown' := hown
        have htj : tgtsTo es ns.length = ts := by rw [← HEL.out]; exact HTS.out
        rw [htj] at hown'
        have htl' : (tgtsTo es ns.length).length = ts.length := by rw [htj]
        rw [htl'] at hvc ⊢
        have hrow := OwnIn.row (OwnIn.of (by rw [htl'] at hown; rw [htj] at hown; exact hown))
        clear hown hown' htj htl' d1 hbx
        by_cases h0 : ts = []
        · have HE := Lib.hid (show nodeST y.body es = hh by rw [HRES.out, h0]; exact app_nilS hh)
          subst h0
          simp only [List.length_nil]
          go_wp2
          go_ret
          exact ⟨by rw [HE.out, HHE.out]; rfl, hB⟩
        · have hpos : 0 < ts.length := List.length_pos_iff.2 h0
          have HE := Lib.hid (show nodeST y.body es = hh ++ ((⟨#[62]⟩ : ByteArray) ++ ⟨(jn ts ⟨#[44]⟩).toArray⟩) by rw [HRES.out, tailST, if_neg h0])
          clear h0
          go_wp2_with fail
          refine (specJoin va vc ts ⟨#[44]⟩ _ (by unfold maxLen; omega) (by rw [hsep]; omega) hrow).mono ?_
          rintro e w3 ⟨rfl, hb3⟩
          go_wp2
          go_ret
          exact ⟨by rw [HE.out, HHE.out, ← ByteArray.append_assoc]; rfl, hB.trans (hb3.mono hB.size)⟩
end Go.Proofs.YtglcailcdcpadaaGreatDoor
