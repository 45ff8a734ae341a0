/-
  The program's text of a structure.
-/
import Derived.Deep.RegionLaw
import Derived.Deep.AppendLies
import Derived.Test.YtglcailcdcpadaaGreatDoorZ19
import Derived.Test.YtglcailcdcpadaaGreatDoorZ20
namespace Go.Proofs.YtglcailcdcpadaaGreatDoor
open Go Go.RowKit Go.ChangeShapes Go.WideShapes Go.ChangeAt

theorem app_nil (a : ByteArray) : a ++ (⟨#[]⟩ : ByteArray) = a := by
  apply ByteArray.ext
  simp
theorem strInfoST : (Tryz.prog.info? 9).map (fun i => (i.zero, i.size, i.bytes)) = some (some (.string ⟨#[]⟩), 1, 16) := by kernel_rfl
set_option maxHeartbeats 800000 in
theorem implTruthTexts (a : Option Addr) (cap : Nat) (zs : List Int) (w : World) (hn : zs.length ≤ 1048576) (hrow : Row w w.heap.size a (intVals zs)) :
    Calls Tryz.prog 95 #[.slice a zs.length cap] w fun e w' => e = .returned (.string (valT zs)) ∧ w' = w := by
  go_enter Tryz.func95, Tryz.ntmps95
  go_wp2
  go_loopw [3, 8] (fun s i wr => ∃ k : Nat, k ≤ zs.length ∧ i = .int .i64 k ∧ s = .string (valT (zs.take k)) ∧ wr = w) (fun _ i _ => zs.length - (intOf i).toNat)
  case atStart => exact ⟨0, Nat.zero_le _, rfl, rfl, rfl⟩
  case round =>
    obtain ⟨k, hk, rfl, rfl, rfl⟩ := hrel
    by_cases hlt : k < zs.length
    · obtain ⟨b, o, rfl, hbW, hc⟩ := hrow k (.int .i64 zs[k]) (intVals_at zs k hlt)
      have HNX := Lib.hid (valT_next zs k hlt)
      generalize zs[k] = z at *
      have h1 := valT_size (zs.take k)
      have h2 := textT_size z
      rw [List.length_take] at h1
      have hq := fun W => run_string_add_sum (P := Tryz.prog) W (valT (zs.take k)) (textT z) (by omega)
      rw [← HNX.out] at hq
      go_wp2_with fail
      refine (implTruthText z _).mono ?_
      rintro e w1 ⟨rfl, rfl⟩
      go_wp2
      go_roundw
      case rel => exact ⟨k + 1, by omega, by go_num, rfl, trivial⟩
      case measure => simp [intOf]; omega
    · have HE := Lib.hid (show valT (zs.take k) = valT zs by rw [List.take_of_length_le (by omega)])
      go_wp2
      go_ret
      exact ⟨by rw [← HE.out]; rfl, rfl⟩
theorem own_shapeT {w : World} {base e size n : Nat} {v : Value} {xs : List Value} (h : w.ownsRow base e size v n xs) : ∃ a c, v = .slice a n c ∧ n ≤ c := by
  rcases h.2 with ⟨rfl, rfl⟩ | ⟨g, cap, cur, rfl, _, _, hc, _⟩
  · exact ⟨_, _, rfl, Nat.le_refl _⟩
  · exact ⟨_, _, rfl, hc⟩
def TgtsEnd (es : List Int) (w : World) (e : Ending) (w' : World) : Prop :=
  ∃ a c, e = .returned (.slice a (tgtsTo es es.length).length c) ∧ w'.ownsRow w.heap.size 9 1 (.slice a (tgtsTo es es.length).length c) (tgtsTo es es.length).length (strVals (tgtsTo es es.length)) ∧ Below w.heap.size w w'
set_option maxRecDepth 100000 in
set_option maxHeartbeats 3200000 in
theorem implTargets_ (x : Lk) (w : World) (hn : x.es.length ≤ 1048576) (her : Row w w.heap.size x.e (intVals x.es)) (hP : Pows w) :
    Calls Tryz.prog 97 #[x.v] w (TgtsEnd x.es w) := by
  obtain ⟨i0, hi, hz0, hz1, hz2⟩ := info_parts strInfoST
  have HAT := Lib.hid (fun (W : World) (h : Below w.heap.size w W) => And.intro ((her.below h).grow h.size) (hP.keeps h))
  have her' : x.es ≠ [] → ∃ b o, x.e = some ⟨b, o, none⟩ := fun h0 => by
    obtain ⟨b, o, e, _⟩ := her 0 _ (intVals_at x.es 0 (List.length_pos_iff.2 h0))
    exact ⟨b, o, e⟩
  clear her hP
  go_enter Tryz.func97, Tryz.ntmps97
  go_wp2_with fail
  obtain ⟨W0, hW0, hb0, hA0⟩ := one_boxL w [.slice x.n.h.a x.n.h.vs.length x.n.h.ca, .slice x.n.h.b x.n.h.zs.length x.n.h.cb, .int .i64 x.n.s, .int .i64 x.n.m, .slice x.e x.es.length x.ce] 71
  simp only [List.toArray] at hW0
  rw [hW0]
  clear hW0
  have c4 := hA0.c 4 _ rfl
  clear hA0
  go_wp2
  clear c4
  go_loopw [3, 9] (fun v i wr => ∃ k : Nat, k ≤ x.es.length ∧ i = .int .i64 k ∧ wr.ownsRow W0.heap.size 9 1 v (tgtsTo x.es k).length (strVals (tgtsTo x.es k)) ∧ Below W0.heap.size W0 wr) (fun _ i _ => x.es.length - (intOf i).toNat)
  case atStart => exact ⟨0, Nat.zero_le _, rfl, World.ownsRow_nil _ _ _ _, Below.refl _ _⟩
  case round =>
    obtain ⟨k, hk, rfl, hown, hbw⟩ := hrel
    obtain ⟨va, vc, rfl, hvc⟩ := own_shapeT hown
    have hB := hb0.trans (hbw.mono hb0.size)
    by_cases hlt : k < x.es.length
    · obtain ⟨bb, bo, hbe, hbb, hcb⟩ := (HAT.out _ hB).1 k (.int .i64 x.es[k]) (intVals_at x.es k hlt)
      have hpw := (HAT.out _ hB).2
      have HNX := Lib.hid (tgtsTo_succ x.es k hlt)
      have hlen := (tgts_size x.es k (by omega)).1
      have hnk := numT_size k (by omega)
      have hnum : (⟨(Lib.itoa (k : Int)).toArray⟩ : ByteArray) = numT k := rfl
      generalize x.es[k] = z at *
      generalize tgtsTo x.es k = ts at *
      have HO := Lib.hid hown
      have hle : W0.heap.size ≤ wr.heap.size := hbw.size
      clear hown
      by_cases h2 : z = 2
      · subst h2
        have HN2 := Lib.hid (show tgtsTo x.es (k + 1) = ts ++ [numT k] by rw [HNX.out]; rfl)
        go_wp2_with fail
        refine (implFormat (k : Int) (by omega) (by omega) _ hpw).mono ?_
        rintro e w5 ⟨rfl, hb5⟩
        rw [hnum]
        have HO5 := Lib.hid (own_keeps HO.out hb5)
        have hbw5 := hbw.trans (hb5.mono hbw.size)
        have hle5 : W0.heap.size ≤ w5.heap.size := hbw5.size
        clear hbe hcb hnum
        go_wp2_with (at_builtin; refine wpList_append_own _ rfl (.tmp 17) (.tmp 20) 33 rfl W0.heap.size 9 i0 (.string ⟨#[]⟩) 1 16 Tryz.underlying33 hi hz0 hz1 hz2 rfl (by decide) _ ts.length _ rfl (HO5.out.alloc _) ⟨w5.heap.size, 0, none⟩ 1 1 [.string (numT k)] rfl rfl (oneCell_at _) (oneCell_str _) (by unfold maxLen; omega) (by omega) (Nat.le_trans hle5 (by simp)) ?_; intro v2 w2 hown2 hg2 _; have hb2 := own_below (HO5.out.alloc _) hg2 (Nat.le_trans hle5 (by simp)) (hbw5.alloc hle5 _); clear hg2)
        go_roundw
        case rel => exact ⟨k + 1, by omega, by go_num, by rw [HN2.out, strVals_snoc, List.length_append]; exact hown2, hb2⟩
        case measure => simp [intOf]; omega
      · by_cases h1 : z = 1
        · subst h1
          have HN2 := Lib.hid (show tgtsTo x.es (k + 1) = ts ++ [numT k ++ ⟨#[63]⟩] by rw [HNX.out]; rfl)
          have hq := fun W => run_string_add_sum (P := Tryz.prog) W (numT k) ⟨#[63]⟩ (by rw [show (⟨#[63]⟩ : ByteArray).size = 1 from rfl]; omega)
          have ht1 : textT 1 = ⟨#[63]⟩ := rfl
          go_wp2_with fail
          refine (implFormat (k : Int) (by omega) (by omega) _ hpw).mono ?_
          rintro e w5 ⟨rfl, hb5⟩
          rw [hnum]
          have HO5 := Lib.hid (own_keeps HO.out hb5)
          have hbw5 := hbw.trans (hb5.mono hbw.size)
          have hle5 : W0.heap.size ≤ w5.heap.size := hbw5.size
          clear hbe hcb hnum
          go_wp2_with fail
          refine (implTruthText 1 _).mono ?_
          rw [ht1]
          rintro e w6 ⟨rfl, rfl⟩
          go_wp2_with (at_builtin; refine wpList_append_own _ rfl (.tmp 24) (.tmp 29) 33 rfl W0.heap.size 9 i0 (.string ⟨#[]⟩) 1 16 Tryz.underlying33 hi hz0 hz1 hz2 rfl (by decide) _ ts.length _ rfl (HO5.out.alloc _) ⟨w5.heap.size, 0, none⟩ 1 1 [.string (numT k ++ ⟨#[63]⟩)] rfl rfl (oneCell_at _) (oneCell_str _) (by unfold maxLen; omega) (by omega) (Nat.le_trans hle5 (by simp)) ?_; intro v2 w2 hown2 hg2 _; have hb2 := own_below (HO5.out.alloc _) hg2 (Nat.le_trans hle5 (by simp)) (hbw5.alloc hle5 _); clear hg2)
          go_roundw
          case rel => exact ⟨k + 1, by omega, by go_num, by rw [HN2.out, strVals_snoc, List.length_append]; exact hown2, hb2⟩
          case measure => simp [intOf]; omega
        · have HN2 := Lib.hid (show tgtsTo x.es (k + 1) = ts by rw [HNX.out, tgt1, if_neg h2, if_neg h1, List.append_nil])
          have d2 : (z == 2) = false := beq_eq_false_iff_ne.2 h2
          have d1 : (z == 1) = false := beq_eq_false_iff_ne.2 h1
          have HT := Lib.hid hbw
          clear h1 h2 hnum
          go_wp2
          go_roundw
          case rel => exact ⟨k + 1, by omega, by go_num, by rw [HN2.out]; exact HO.out, HT.out⟩
          case measure => simp [intOf]; omega
    · obtain rfl : k = x.es.length := by omega
      have HE := Lib.hid (show TgtsEnd x.es w (.returned (.slice va (tgtsTo x.es x.es.length).length vc)) wr from ⟨va, vc, rfl, own_base hown hb0.size, hB⟩)
      clear hown
      go_wp2
      go_ret
      exact HE.out
set_option maxRecDepth 100000 in
set_option maxHeartbeats 800000 in
theorem implNodeText (x : Lk) (w : World) (hv : x.n.h.vs.length ≤ 4) (hz : x.n.h.zs.length ≤ 4) (hes : x.es.length ≤ 10) (hat : x.n.h.At w) (her : Row w w.heap.size x.e (intVals x.es)) (hP : Pows w) :
    Calls Tryz.prog 55 #[x.v] w (GaveX (.string (nodeST x.n.body x.es)) w) := by
  have HAT := Lib.hid (fun (W : World) (h : Below w.heap.size w W) => And.intro (And.intro (hat.below h) ((her.below h).grow h.size)) (hP.keeps h))
  clear hat her hP
  have hts := tgts_size x.es x.es.length (by omega)
  have htl := total_le21 hts.2
  have hjl := jn_length (tgtsTo x.es x.es.length) ⟨#[44]⟩
  have htail := tailST_size (tgtsTo x.es x.es.length) (by omega) hts.2
  have hsep : (⟨#[44]⟩ : ByteArray).size = 1 := rfl
  have hst : (⟨#[42]⟩ : ByteArray).size = 1 := rfl
  have hgt : (⟨#[62]⟩ : ByteArray).size = 1 := rfl
  rw [hsep] at hjl
  have v1 := valT_size x.n.h.vs
  have v2 := valT_size x.n.h.zs
  have v3 := textT_size x.n.s
  have HRES := Lib.hid (show nodeST x.n.body x.es = headST x.n.h.vs x.n.h.zs x.n.s x.n.m ++ tailST (tgtsTo x.es x.es.length) from rfl)
  have hhd := headST_size x.n.h.vs x.n.h.zs x.n.s x.n.m
  have q1 := fun W => run_string_add_sum (P := Tryz.prog) W (valT x.n.h.vs) (valT x.n.h.zs) (by omega)
  have q2 := fun W => run_string_add_sum (P := Tryz.prog) W (valT x.n.h.vs ++ valT x.n.h.zs) (textT x.n.s) (by rw [ByteArray.size_append]; omega)
  have q3 := fun W => run_string_add_sum (P := Tryz.prog) W (valT x.n.h.vs ++ valT x.n.h.zs ++ textT x.n.s) ⟨#[42]⟩ (by rw [ByteArray.size_append, ByteArray.size_append, hst]; omega)
  go_enter Tryz.func55, Tryz.ntmps55
  go_wp2_with fail
  obtain ⟨W0, hW0, hb0, hA0⟩ := one_boxL w [.slice x.n.h.a x.n.h.vs.length x.n.h.ca, .slice x.n.h.b x.n.h.zs.length x.n.h.cb, .int .i64 x.n.s, .int .i64 x.n.m, .slice x.e x.es.length x.ce] 71
  simp only [List.toArray] at hW0
  rw [hW0]
  clear hW0
  have c0 := hA0.c 0 _ rfl
  have c1 := hA0.c 1 _ rfl
  have c2 := hA0.c 2 _ rfl
  have c3 := hA0.c 3 _ rfl
  have c4 := hA0.c 4 _ rfl
  have HT1 := Lib.hid (fun n => implTruthTexts x.n.h.a x.n.h.ca x.n.h.vs (W0.drewN n) (by omega) (HAT.out _ (below_draws hb0 n)).1.1.v)
  have HT2 := Lib.hid (fun n => implTruthTexts x.n.h.b x.n.h.cb x.n.h.zs (W0.drewN n) (by omega) (HAT.out _ (below_draws hb0 n)).1.1.z)
  have ht3 : ∀ n, Calls Tryz.prog 96 #[.int .i64 x.n.s] (W0.drewN n) fun e w' => e = Ending.returned (.string (textT x.n.s)) ∧ w' = W0.drewN n := fun n => (implTruthText x.n.s (W0.drewN n)).mono (by rintro e w' ⟨rfl, rfl⟩; exact ⟨rfl, rfl⟩)
  have HT3 := Lib.hid ht3
  clear ht3
  go_wp2_with fail
  go_quiet (first | (go_at_call 95; first | with_reducible exact Calls.quiet_of_same (HT1.out _) | with_reducible exact Calls.quiet_of_same (HT2.out _)) | (go_at_call 96; with_reducible exact Calls.quiet_of_same (HT3.out _)))
  clear HT1 HT2 HT3 q1 q2 c0 c1 c2
  have hB1 : Below w.heap.size w (W0.drewN nq) := below_draws hb0 nq
  obtain ⟨W1, hW1⟩ : ∃ W1, W0.drewN nq = W1 := ⟨_, rfl⟩
  rw [hW1] at hB1
  have c3' : W1.cell? ⟨w.heap.size, 3, none⟩ = some (.int .i64 x.n.m) := by rw [← hW1]; exact c3
  have bx1 : BoxL W1 w.heap.size [.slice x.n.h.a x.n.h.vs.length x.n.h.ca, .slice x.n.h.b x.n.h.zs.length x.n.h.cb, .int .i64 x.n.s, .int .i64 x.n.m, .slice x.e x.es.length x.ce] := by
    rw [← hW1]
    exact hA0.below (below_draws (Below.refl _ _) nq)
  rw [hW1]
  clear hW1 c3 c4 hA0
  have b0 := bx1.c 0 _ rfl
  have b1 := bx1.c 1 _ rfl
  have b2 := bx1.c 2 _ rfl
  have b3 := bx1.c 3 _ rfl
  have b4 := bx1.c 4 _ rfl
  clear bx1 c3'
  obtain ⟨hh, hhh⟩ : ∃ hh, headST x.n.h.vs x.n.h.zs x.n.s x.n.m = hh := ⟨_, rfl⟩
  rw [hhh] at hhd HRES
  obtain ⟨ts, hts0⟩ : ∃ ts, tgtsTo x.es x.es.length = ts := ⟨_, rfl⟩
  rw [hts0] at hts htl hjl htail HRES
  have HTS := Lib.hid hts0
  clear hts0
  have hsplit : ((x.n.m == 1) = true ∧ hh = valT x.n.h.vs ++ valT x.n.h.zs ++ textT x.n.s ++ ⟨#[42]⟩) ∨ ((x.n.m == 1) = false ∧ hh = valT x.n.h.vs ++ valT x.n.h.zs ++ textT x.n.s) := by
    rw [← hhh]
    unfold headST
    by_cases h1 : x.n.m = 1
    · exact .inl ⟨by simp [h1], by rw [if_pos h1]⟩
    · exact .inr ⟨by simp [h1], by rw [if_neg h1]⟩
  have r1 := fun W => run_string_add_sum (P := Tryz.prog) W ⟨#[62]⟩ ⟨(jn ts ⟨#[44]⟩).toArray⟩ (by rw [hgt]; show 1 + (jn ts ⟨#[44]⟩).length ≤ _; omega)
  have r2 := fun (s : ByteArray) (hs : s.size ≤ 20) W => run_string_add_sum (P := Tryz.prog) W s ((⟨#[62]⟩ : ByteArray) ++ ⟨(jn ts ⟨#[44]⟩).toArray⟩) (by rw [ByteArray.size_append, hgt]; show s.size + (1 + (jn ts ⟨#[44]⟩).length) ≤ _; omega)
  rcases hsplit with ⟨hm, hhe⟩ | ⟨hm, hhe⟩
  all_goals
    have r3 := r2 hh (by omega)
    have HHE := Lib.hid hhe
    rw [hhe] at r3
    clear r2 hhh
    go_wp2_with fail
    have hT := implTargets_ x W1 (by omega) (HAT.out _ hB1).1.2 (HAT.out _ hB1).2
    unfold TgtsEnd at hT
    rw [HTS.out] at hT
    refine hT.mono ?_
    clear hT
    rintro e w2 ⟨ta, tc, rfl, hown, hb2⟩
    have hB2 := hB1.trans (hb2.mono hB1.size)
    have hrow := OwnIn.row (OwnIn.of hown)
    have hcap : ts.length ≤ tc := by
      obtain ⟨a', c', e', h'⟩ := own_shapeT hown
      injection e' with _ _ e3
      rw [e3]
      exact h'
    clear hown b0 b1 b2 b3 b4
    by_cases h0 : ts = []
    · have HE := Lib.hid (show nodeST x.n.body x.es = hh by rw [HRES.out, h0]; exact app_nil hh)
      subst h0
      simp only [List.length_nil]
      go_wp2
      go_ret
      exact ⟨by rw [HE.out, HHE.out]; rfl, hB2⟩
    · have hpos : 0 < ts.length := List.length_pos_iff.2 h0
      have HE := Lib.hid (show nodeST x.n.body x.es = hh ++ ((⟨#[62]⟩ : ByteArray) ++ ⟨(jn ts ⟨#[44]⟩).toArray⟩) by rw [HRES.out, tailST, if_neg h0])
      clear h0
      go_wp2_with fail
      refine (implJoin ta tc ts ⟨#[44]⟩ _ hcap (by omega) (by rw [hsep]; omega) hrow).mono ?_
      rintro e w3 ⟨rfl, hb3⟩
      go_wp2
      go_ret
      exact ⟨by rw [HE.out, HHE.out]; rfl, hB2.trans (hb3.mono hB2.size)⟩
end Go.Proofs.YtglcailcdcpadaaGreatDoor
