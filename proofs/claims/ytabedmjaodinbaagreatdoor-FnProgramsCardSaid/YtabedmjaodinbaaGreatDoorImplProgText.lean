/-
  The program's ProgramText: the text of a program that is right, else the empty text.
-/
import Derived.Test.YtabedmjaodinbaaGreatDoorProgWords
import Derived.Test.YtabedmjaodinbaaGreatDoorImplFormat
import Derived.Test.YtabedmjaodinbaaGreatDoorImplJoin
import Derived.Deep.RegionHeld3
namespace Go.Proofs.YtabedmjaodinbaaGreatDoor
open Go Go.RowKit

theorem strInfoP : (Tryz.prog.info? 9).map (fun i => (i.zero, i.size, i.bytes)) = some (some (.string ⟨#[]⟩), 1, 16) := by kernel_rfl
theorem own_form' {w : World} {base e size n : Nat} {v : Value} {xs : List Value} (h : w.ownsRow base e size v n xs) : ∃ a c, v = .slice a n c ∧ n ≤ c := by
  rcases h.2 with ⟨rfl, rfl⟩ | ⟨g, cap, cur, rfl, _, _, hc, _⟩
  · exact ⟨_, _, rfl, Nat.le_refl _⟩
  · exact ⟨_, _, rfl, hc⟩
theorem strs_lit (w : World) (ss : List ByteArray) (e : TypeId) (h : ss.length ≤ maxLen) : (w.alloc (.cells (strVals ss).toArray e)).ownsRow w.heap.size e 1 (.slice (some ⟨w.heap.size, 0, none⟩) ss.length ss.length) ss.length (strVals ss) := by
  have := World.ownsRow_lit (e := e) (size := 1) (base := w.heap.size) w (strVals ss).toArray ss.length (Nat.le_refl _) h (by simp [strVals])
  simpa using this

def partsOf (A B : List UInt8) (es : List Ed) : List ByteArray := ⟨A.toArray⟩ :: ⟨B.toArray⟩ :: es.map fun x => ⟨(edL x).toArray⟩
theorem partsOf_length (A B : List UInt8) (es : List Ed) : (partsOf A B es).length = es.length + 2 := by simp [partsOf]
theorem partsOf_next (A B : List UInt8) (es : List Ed) (k : Nat) (h : k < es.length) : partsOf A B (es.take (k + 1)) = partsOf A B (es.take k) ++ [⟨(edL es[k]).toArray⟩] := by
  simp only [partsOf]
  rw [take_next es k h, List.map_append]
  rfl
theorem partsOf_total (A B : List UInt8) (es : List Ed) (h : ∀ x ∈ es, x.Ok) (hA : A.length ≤ 12) (hB : B.length ≤ 21) : total (partsOf A B es) ≤ 33 + es.length * 56 := by
  have h2 : total (es.map fun x => (⟨(edL x).toArray⟩ : ByteArray)) ≤ (es.map fun x => (⟨(edL x).toArray⟩ : ByteArray)).length * 56 := total_le fun s hs => by
    obtain ⟨x, hx, rfl⟩ := List.mem_map.1 hs
    rw [mk_size]
    exact edL_length x (h x hx)
  rw [List.length_map] at h2
  simp only [partsOf, total, List.map_cons, List.sum_cons, mk_size] at h2 ⊢
  omega

set_option maxRecDepth 100000 in
set_option maxHeartbeats 3200000 in
theorem implProgText (a b : Option Addr) (ca cb : Nat) (ss : List ByteArray) (p : Int) (es : List Ed) (w : World) (hs : ss.length ≤ maxLen ∧ (∀ s ∈ ss, s.size ≤ maxLen) ∧ Row w w.heap.size a (strVals ss)) (hca : ss.length ≤ ca) (hp : -9223372036854775808 ≤ p ∧ p ≤ 9223372036854775807) (he : es.length ≤ maxLen ∧ (∀ x ∈ es, x.Ok) ∧ Row w w.heap.size b (edVals es)) (hT : HasNamesTable w) (hP : Pows w) :
    Calls Tryz.prog 7 #[.agg #[.slice a ss.length ca, .int .i64 p, .slice b es.length cb]] w (GaveB (.string (progT ss p es)) w) := by
  obtain ⟨i0, hi, hz0, hz1, hz2⟩ := info_parts strInfoP
  have key : ∀ W, Below w.heap.size w W → Row W W.heap.size a (strVals ss) ∧ Row W W.heap.size b (edVals es) := fun W h => ⟨(hs.2.2.below h).grow h.size, (he.2.2.below h).grow h.size⟩
  go_enter Tryz.func7, Tryz.ntmps7
  go_wp2_with fail
  obtain ⟨W0, hW0, hb0, hs0, hA0⟩ := one_box w (.slice a ss.length ca) (.int .i64 p) (.slice b es.length cb) 27
  rw [hW0]
  clear hW0
  refine (implIsProgram _ _ _ _ ss p es _ ⟨hs.1, hs.2.1, (key _ hb0).1⟩ ⟨he.1, (key _ hb0).2⟩ (hT.keeps hb0)).mono ?_
  rintro e w1 ⟨rfl, hb1⟩
  have hB1 := hb0.trans (hb1.mono hb0.size)
  have hA1 := hA0.keep hs0 hb1
  have hs1 : w.heap.size < w1.heap.size := Nat.lt_of_lt_of_le hs0 hb1.size
  cases hg : progB ss p es with
  | false =>
    have hf := Lib.hid (progT_no hg)
    go_wp2
    go_ret
    exact ⟨by rw [hf.out]; rfl, hB1⟩
  | true =>
    have hfin := Lib.hid (progT_yes hg)
    have hgv : goodVars ss = true ∧ es.length ≤ 24 := by simp only [progB, Bool.and_eq_true, decide_eq_true_eq] at hg; exact ⟨hg.1.1.1.1, hg.1.2⟩
    have hsm := vars_small hgv.1
    have hes24 := hgv.2
    have hjl : (jn ss ⟨#[32]⟩).length ≤ 12 := by
      have := jn_length ss ⟨#[32]⟩
      rw [show (⟨#[32]⟩ : ByteArray).size = 1 from rfl] at this
      omega
    have hpl := Lib.itoa_length_le p hp.1 hp.2
    clear hg hgv hb1 hA0 hs0 hb0
    have hAll : ∀ W, Below w1.heap.size w1 W → Box3 W w.heap.size (.slice a ss.length ca) (.int .i64 p) (.slice b es.length cb) ∧ Below w.heap.size w W := fun W h => ⟨hA1.keep hs1 h, hB1.trans (h.mono hB1.size)⟩
    go_wp2
    go_region_held3 (fun w' => w'.cell? ⟨w.heap.size, 0, none⟩ = some (.slice a ss.length ca) ∧ w'.cell? ⟨w.heap.size, 1, none⟩ = some (.int .i64 p) ∧ w'.cell? ⟨w.heap.size, 2, none⟩ = some (.slice b es.length cb))
      (first | with_reducible exact (hAll _ (Below.drew (Below.refl _ _))).1 | with_reducible exact (hAll _ H2).1 | with_reducible exact (hAll _ H3).1 | with_reducible exact (hAll _ (H3.alloc H3.size _)).1)
      (first
        | (go_at_call 26; (with_reducible refine (implJoin a ca ss ⟨#[32]⟩ _ hca (by omega) (by rw [show (⟨#[32]⟩ : ByteArray).size = 1 from rfl]; omega) (key _ (hAll _ (Below.drew (Below.refl _ _))).2).1).mono ?_); rintro e w2 ⟨rfl, hb2⟩; have H2 := (Below.drew (Below.refl w1.heap.size w1)).trans hb2)
        | (go_at_call 27; (with_reducible refine (implFormat p hp.1 hp.2 _ (hP.keeps (hAll _ H2).2)).mono ?_); rintro e w3 ⟨rfl, hb3⟩; have H3 := H2.trans (hb3.mono H2.size)))
    have hlit : (w3.alloc (.cells #[.string ⟨(jn ss ⟨#[32]⟩).toArray⟩, .string ⟨(Lib.itoa p).toArray⟩] 9)).ownsRow w1.heap.size 9 1 (.slice (some ⟨w3.heap.size, 0, none⟩) 2 2) 2 (strVals (partsOf (jn ss ⟨#[32]⟩) (Lib.itoa p) [])) :=
      own_base (strs_lit w3 [⟨(jn ss ⟨#[32]⟩).toArray⟩, ⟨(Lib.itoa p).toArray⟩] 9 (by simp [maxLen])) H3.size
    have H4 : Below w1.heap.size w1 (w3.alloc (.cells #[.string ⟨(jn ss ⟨#[32]⟩).toArray⟩, .string ⟨(Lib.itoa p).toArray⟩] 9)) := H3.alloc H3.size _
    obtain ⟨c0, c1, c2⟩ := (hAll _ H4).1
    clear hb2 hb3 H2
    generalize hA : jn ss ⟨#[32]⟩ = A at *
    generalize hB : Lib.itoa p = B at *
    go_wp2
    clear c0 c1 c2
    go_loopw [3, 20] (fun v i wr => ∃ k : Nat, k ≤ es.length ∧ i = .int .i64 k ∧ wr.ownsRow w1.heap.size 9 1 v (k + 2) (strVals (partsOf A B (es.take k))) ∧ Below w1.heap.size w1 wr) (fun _ i _ => es.length - (intOf i).toNat)
    case atStart => exact ⟨0, Nat.zero_le _, rfl, hlit, H4⟩
    case round =>
      obtain ⟨k, hk, rfl, hown, hb⟩ := hrel
      have Hown := Lib.hid hown
      clear hown
      by_cases hlt : k < es.length
      · obtain ⟨b0, o, rfl, hbW, hE0⟩ := he.2.2.edge k hlt
        have hBr := (hAll _ hb).2
        obtain ⟨c0, c1, c2, c3, c4⟩ := hE0.below hBr hbW
        have hok := he.2.1 es[k] (List.getElem_mem hlt)
        have hnx := partsOf_next A B es k hlt
        generalize es[k] = x at *
        have hlen := edL_length x hok
        have hj := jn_fields x
        have Hnx := Lib.hid hnx
        clear hE0 hnx
        go_wp2
        obtain ⟨W5, hW5, hb5, hs5, hX5⟩ := edge_box wr x 44
        rw [hW5]
        clear hW5 c0 c1 c2 c3 c4
        have hAt : ∀ W, Below W5.heap.size W5 W → Box5 W wr.heap.size x ∧ Below wr.heap.size wr W ∧ Below w1.heap.size w1 W := fun W h => by
          have h5 : Below wr.heap.size wr W := hb5.trans (h.mono hb5.size)
          exact ⟨hX5.keep hs5 h, h5, hb.trans (h5.mono hb.size)⟩
        clear hX5 hb5 hs5
        go_region_held3 (fun w' => w'.cell? ⟨wr.heap.size, 0, none⟩ = some (.int .i64 x.f) ∧ w'.cell? ⟨wr.heap.size, 1, none⟩ = some (.int .i64 x.t) ∧ w'.cell? ⟨wr.heap.size, 2, none⟩ = some (.int .i64 x.k) ∧ w'.cell? ⟨wr.heap.size, 3, none⟩ = some (.string x.a) ∧ w'.cell? ⟨wr.heap.size, 4, none⟩ = some (.string x.b))
          (first | with_reducible exact (hAt _ (Below.drew (Below.refl _ _))).1 | with_reducible exact (hAt _ G1).1 | with_reducible exact (hAt _ G2).1 | with_reducible exact (hAt _ G3).1 | with_reducible exact (hAt _ (G3.alloc G3.size _)).1)
          (first
            | (go_at_call 27; (with_reducible refine (implFormat x.f hok.f.1 hok.f.2 _ (hP.keeps (hAll _ (hAt _ (Below.drew (Below.refl _ _))).2.2).2)).mono ?_); rintro e w5 ⟨rfl, hb5⟩; have G1 := (Below.drew (Below.refl W5.heap.size W5)).trans hb5)
            | (go_at_call 27; (with_reducible refine (implFormat x.t hok.t.1 hok.t.2 _ (hP.keeps (hAll _ (hAt _ G1).2.2).2)).mono ?_); rintro e w6 ⟨rfl, hb6⟩; have G2 := G1.trans (hb6.mono G1.size))
            | (go_at_call 28; (with_reducible refine (implStmtText x.k x.a x.b _ hok.a hok.b (hT.keeps (hAll _ (hAt _ G2).2.2).2)).mono ?_); rintro e w7 ⟨rfl, hb7⟩; have G3 := G2.trans (hb7.mono G2.size)))
        have hlit3 : (w7.alloc (.cells #[.string ⟨(Lib.itoa x.f).toArray⟩, .string ⟨(Lib.itoa x.t).toArray⟩, .string (textS x.k x.a x.b)] 9)).ownsRow w7.heap.size 9 1 (.slice (some ⟨w7.heap.size, 0, none⟩) 3 3) 3 (strVals [⟨(Lib.itoa x.f).toArray⟩, ⟨(Lib.itoa x.t).toArray⟩, textS x.k x.a x.b]) :=
          strs_lit w7 [⟨(Lib.itoa x.f).toArray⟩, ⟨(Lib.itoa x.t).toArray⟩, textS x.k x.a x.b] 9 (by simp [maxLen])
        obtain ⟨w8, hw8⟩ : ∃ w8, w7.alloc (.cells #[.string ⟨(Lib.itoa x.f).toArray⟩, .string ⟨(Lib.itoa x.t).toArray⟩, .string (textS x.k x.a x.b)] 9) = w8 := ⟨_, rfl⟩
        have G4 : Below W5.heap.size W5 w8 := by rw [← hw8]; exact G3.alloc G3.size _
        have hR8 := Row.owned hlit3
        rw [hw8] at hR8
        have hl3 : total [⟨(Lib.itoa x.f).toArray⟩, ⟨(Lib.itoa x.t).toArray⟩, textS x.k x.a x.b] ≤ 56 := by
          have h1 := Lib.itoa_length_le x.f hok.f.1 hok.f.2
          have h2 := Lib.itoa_length_le x.t hok.t.1 hok.t.2
          have h3 := textS_small x.k x.a x.b
          simp only [total, List.map_cons, List.map_nil, List.sum_cons, List.sum_nil, mk_size]
          rw [← size_toList]
          omega
        go_wp2_with fail
        refine (implJoin _ 3 [⟨(Lib.itoa x.f).toArray⟩, ⟨(Lib.itoa x.t).toArray⟩, textS x.k x.a x.b] ⟨#[32]⟩ _ (by simp) (by simp) (by rw [show (⟨#[32]⟩ : ByteArray).size = 1 from rfl]; simp only [List.length_cons, List.length_nil]; omega) hR8).mono ?_
        rw [hj]
        rintro e w9 ⟨rfl, hb9⟩
        have G5 := G4.trans (hb9.mono G4.size)
        have H9 := (hAt _ G5).2.2
        have hrw := (hAt _ G5).2.1
        have Hown9 := Lib.hid (own_keeps Hown.out hrw)
        have hz9 := H9.size
        clear hlit3 hR8 hb5 hb6 hb7 hb9 G1 G2 G3 G4 hw8 hj
        go_wp2_with (at_builtin; refine wpList_append_own _ rfl (.tmp 34) (.tmp 37) 24 rfl w1.heap.size 9 i0 (.string ⟨#[]⟩) 1 16 Tryz.underlying24 hi hz0 hz1 hz2 rfl (by decide) _ (k + 2) _ rfl (Hown9.out.alloc _) ⟨w9.heap.size, 0, none⟩ 1 1 [.string ⟨(edL x).toArray⟩] rfl rfl (oneCell_at _) (oneCell_str _) (by unfold maxLen; omega) (by omega) (by simp; omega) ?_; intro v2 w10 hown2 hg2 _; have hb2 := own_below (Hown9.out.alloc _) hg2 (by simp; omega) (H9.alloc hz9 _); clear hg2)
        go_roundw
        case rel => exact ⟨k + 1, by omega, by go_num, by rw [Hnx.out, strVals_snoc]; exact hown2, hb2⟩
        case measure => simp [intOf]; omega
      · have hk' : k = es.length := by omega
        subst hk'
        rw [List.take_length] at Hown
        obtain ⟨a2, c2, rfl, hac⟩ := own_form' Hown.out
        have hR := Row.owned Hown.out
        have htot := partsOf_total A B es he.2.1 hjl hpl
        have hpl' := partsOf_length A B es
        rw [← hpl'] at hac
        go_wp2_with fail
        rw [← hpl']
        refine (implJoin a2 c2 (partsOf A B es) ⟨#[59]⟩ _ hac (by omega) (by rw [show (⟨#[59]⟩ : ByteArray).size = 1 from rfl]; omega) hR).mono ?_
        rintro e w9 ⟨rfl, hb9⟩
        have hB9 := (hAll _ (hb.trans (hb9.mono hb.size))).2
        have hend : jn (partsOf A B es) ⟨#[59]⟩ = progL ss p es := by
          rw [partsOf, jn_parts, ← hA, ← hB]
          rfl
        rw [hend]
        go_wp2
        go_ret
        exact ⟨by rw [hfin.out]; rfl, hB9⟩
end Go.Proofs.YtabedmjaodinbaaGreatDoor
