/-
  The model's reader: the name of a program variable.
-/
import Derived.Test.YtplchhahjmoodaaGreatDoorZ39
namespace Go.Proofs.YtplchhahjmoodaaGreatDoor
open Go Go.RowKit Go.ChangeAt Go.ChangeShapes Go.WideShapes

theorem while_cut : ∀ (l : List UInt8) (m : Nat), m ≤ l.length → (∀ i (h : i < l.length), i < m → isLow l[i] = true) → (∀ h : m < l.length, isLow l[m] = false) → l.takeWhile isLow = l.take m ∧ l.dropWhile isLow = l.drop m
  | [], m, hm, _, _ => by simp at hm; subst hm; simp
  | c :: l, 0, _, _, h2 => by
    have := h2 (by simp)
    simp at this
    simp [this]
  | c :: l, m + 1, hm, h1, h2 => by
    have hc := h1 0 (by simp) (by omega)
    simp at hc
    have ih := while_cut l m (by simpa using hm) (fun i h hi => by
      have := h1 (i + 1) (by simpa using h) (by omega)
      simpa using this) (fun h => by
      have := h2 (by simpa using h)
      simpa using this)
    simp [hc, ih.1, ih.2]
theorem row_drawn {w : World} {a : Option Addr} {xs : List Value} (h : Row w w.heap.size a xs) (n : Nat) : Row (w.drewN n) (w.drewN n).heap.size a xs := (h.below (below_draws (Below.refl _ _) n)).grow (Nat.le_refl _)
def atOf (R : Nat) (W : World) : Nat := match W.cell? ⟨R, 2, none⟩ with | some v => (intOf v).toNat | none => 0
theorem RdAt.at_ {W : World} {R : Nat} {va : Option Addr} {vca n : Nat} {s : ByteArray} {k : Nat} {b : Bool} (h : RdAt W R va vca n s k b) : atOf R W = k := by
  unfold atOf
  rw [h.box.c 2 _ rfl]
  simp [intOf]
theorem low_iff (c : UInt8) : isLow c = true ↔ 97 ≤ c.toNat ∧ c.toNat ≤ 122 := by
  unfold isLow
  simp
theorem name_state {ss : List ByteArray} {s : ByteArray} {k j : Nat} {b : Bool} (hk : k ≤ j) (hj : j ≤ s.size) (h1 : ∀ i (h : i < s.size), k ≤ i → i < j → isLow s[i] = true) (h2 : ∀ h : j < s.size, isLow s[j] = false) :
    nameP ss (rdS s k b) = (place ss (s.extract k j), mustP (⟨#[58]⟩ : ByteArray).data.toList (rdS s j (b || decide (place ss (s.extract k j) < 0)))) := by
  have hl : s.data.toList.length = s.size := by simp
  have hw := while_cut (s.data.toList.drop k) (j - k) (by rw [List.length_drop]; omega) (fun i h hi => by
    rw [List.length_drop] at h
    have := h1 (k + i) (by omega) (by omega) (by omega)
    rw [List.getElem_drop]
    exact this) (fun h => by
    rw [List.length_drop] at h
    have := h2 (by omega)
    rw [List.getElem_drop]
    have e : k + (j - k) = j := by omega
    simp only [e]
    exact this)
  have he : (⟨((s.data.toList.drop k).take (j - k)).toArray⟩ : ByteArray) = s.extract k j := by
    refine text_inj ?_
    simp
  unfold nameP rdS
  simp only [hw.1, hw.2, he, List.drop_drop]
  rw [show k + (j - k) = j by omega]
set_option maxRecDepth 100000 in
set_option maxHeartbeats 3200000 in
theorem specName (R : Nat) (va : Option Addr) (vca : Nat) (ss : List ByteArray) (s : ByteArray) (k : Nat) (b : Bool) (W : World) (hs : s.size ≤ 1099511627776) (hl : ss.length ≤ maxLen) (hrow : Row W R va (strVals ss)) (h : RdAt W R va vca ss.length s k b) :
    Calls Tryz.prog 89 #[.pointer (some ⟨R, 0, none⟩)] W (fun e W' => e = .returned (.int .i64 (nameP ss (rdS s k b)).1) ∧ Step R va vca ss.length s (nameP ss (rdS s k b)).2 W W') := by
  have c2 := h.box.c 2 _ rfl
  have H := Lib.hid h
  have HROW := Lib.hid (fun (W' : World) (t : Turn R (R + 1) W W') => show Row W' W'.heap.size va (strVals ss) from fun i v hi => by
    obtain ⟨rb, ro, e, hb, hc⟩ := hrow i v hi
    have hRl := h.box.lt
    exact ⟨rb, ro, e, by have := t.size; omega, (World.cell?_of_block (t.block rb (by omega) (.inl hb))).trans hc⟩)
  clear h hrow
  go_enter Tryz.func89, Tryz.ntmps89
  go_wp2_with fail
  go_loopw [9] (fun _ wr => ∃ j : Nat, k ≤ j ∧ j ≤ s.size ∧ RdAt wr R va vca ss.length s j b ∧ Turn R (R + 1) W wr ∧ (∀ i (h : i < s.size), k ≤ i → i < j → isLow s[i] = true)) (fun _ wr => s.size - atOf R wr)
  case atStart => exact ⟨k, Nat.le_refl _, H.out.le, H.out, Turn.refl _ _ _, fun i h h1 h2 => by omega⟩
  case round =>
    clear c2
    obtain ⟨j, hkj, hj, hr, ht, hlow⟩ := hrel
    have hat := hr.at_
    have c0 := hr.box.c 0 _ rfl
    have c1 := hr.box.c 1 _ rfl
    have c2 := hr.box.c 2 _ rfl
    have c3 := hr.box.c 3 _ rfl
    have f := hr.box.f
    have HR := Lib.hid hr
    have HT := Lib.hid ht
    have HLOW := Lib.hid hlow
    have HAT := Lib.hid hat
    clear hr ht hlow hat
    rcases Nat.lt_or_ge j s.size with hlt | hge
    · have hlti : (j : Int) < (s.size : Int) := by omega
      obtain ⟨c, hc⟩ : ∃ c, s[j].toNat = c := ⟨_, rfl⟩
      have HC := Lib.hid hc
      by_cases hlo : (c : Int) < 97
      · have g1 : decide ((97 : Int) ≤ (c : Int)) = false := by simp; omega
        go_wp2_with fail
        go_quiet (fail)
        go_wp2_with fail
        obtain ⟨W1, hW1⟩ : ∃ V, V = wr.drewN nq := ⟨_, rfl⟩
        rw [← hW1]
        have hbW1 : Below wr.heap.size wr W1 := by rw [hW1]; exact below_draws (Below.refl _ _) nq
        have hr1 := HR.out.below hbW1
        have ht1 := HT.out.trans (Turn.of_below hbW1)
        have hrow := HROW.out _ ht1
        have HI := Lib.hid (fun (v : World) (hv : Row v v.heap.size va (strVals ss)) => specIndexOf va vca ss (s.extract k j) v hl hv)
        have HRW := Lib.hid hrow
        have hns := name_state (ss := ss) (b := b) hkj hj HLOW.out (fun _ => by rw [Bool.eq_false_iff]; intro hx; rw [low_iff, HC.out] at hx; omega)
        have HNS := Lib.hid hns
        have hsl : ∀ V : World, (Instr.slice 9 (.string s) (some (.int .i64 (k : Int))) (some (.int .i64 (j : Int))) none).run Tryz.prog V = .ok (.string (s.extract k j)) V := fun V => by
          have h1 := run_slice_string (P := Tryz.prog) V 9 s .i64 .i64 (k : Int) (j : Int) Tryz.underlying9 (by omega) (by omega) (by omega)
          simpa using h1
        have d0 := hr1.box.c 0 _ rfl
        have d1 := hr1.box.c 1 _ rfl
        have d2 := hr1.box.c 2 _ rfl
        have d3 := hr1.box.c 3 _ rfl
        have df := hr1.box.f
        have HR1 := Lib.hid hr1
        have HT1 := Lib.hid ht1
        clear hrow hns hr1 ht1 hbW1 hW1 c0 c1 c2 c3 f
        cases b with
        | false =>
          go_quiet (first | (go_at_call 82; exact Calls.quiet_of_same ((HI.out _ (row_drawn HRW.out _)).mono fun e w' h => ⟨h.1, h.2.symm⟩)))
          go_wp2_with fail
          have hr2 := (HR1.out.below (below_draws (Below.refl _ _) nq)).mark (decide (place ss (s.extract k j) < 0))
          have ht2 := (HT1.out.trans (Turn.of_below (below_draws (Below.refl W1.heap.size W1) nq))).trans (turn_set (W1.drewN nq) R 3 (.bool (decide (place ss (s.extract k j) < 0))))
          have HT2 := Lib.hid ht2
          clear d0 d1 d2 d3 df ht2
          refine (specMust R va vca ss.length ⟨#[58]⟩ s j (decide (place ss (s.extract k j) < 0)) _ (by decide) hs hr2).mono ?_
          rintro e w4 ⟨rfl, k', b', he, h4, t4⟩
          have HE := Lib.hid (show (nameP ss (rdS s k false)).1 = place ss (s.extract k j) ∧ Step R va vca ss.length s (nameP ss (rdS s k false)).2 W w4 from ⟨by rw [HNS.out], by rw [HNS.out]; exact ⟨k', b', by simpa using he, h4, HT2.out.trans t4⟩⟩)
          clear hr2 he h4 t4
          go_wp2_with fail
          go_ret
          exact ⟨by rw [HE.out.1]; rfl, HE.out.2⟩
        | true =>
          go_quiet (first | (go_at_call 82; exact Calls.quiet_of_same ((HI.out _ (row_drawn HRW.out _)).mono fun e w' h => ⟨h.1, h.2.symm⟩)))
          go_wp2_with fail
          have hr2 := (HR1.out.below (below_draws (Below.refl _ _) nq)).mark true
          have ht2 := (HT1.out.trans (Turn.of_below (below_draws (Below.refl W1.heap.size W1) nq))).trans (turn_set (W1.drewN nq) R 3 (.bool true))
          have HT2 := Lib.hid ht2
          clear d0 d1 d2 d3 df ht2
          refine (specMust R va vca ss.length ⟨#[58]⟩ s j true _ (by decide) hs hr2).mono ?_
          rintro e w4 ⟨rfl, k', b', he, h4, t4⟩
          have HE := Lib.hid (show (nameP ss (rdS s k true)).1 = place ss (s.extract k j) ∧ Step R va vca ss.length s (nameP ss (rdS s k true)).2 W w4 from ⟨by rw [HNS.out], by rw [HNS.out]; exact ⟨k', b', by simpa using he, h4, HT2.out.trans t4⟩⟩)
          clear hr2 he h4 t4
          go_wp2_with fail
          go_ret
          exact ⟨by rw [HE.out.1]; rfl, HE.out.2⟩
      · by_cases hhi : 122 < (c : Int)
        · have g1 : decide ((97 : Int) ≤ (c : Int)) = true := by simp; omega
          have g2 : decide ((c : Int) ≤ 122) = false := by simp; omega
          go_wp2_with fail
          go_quiet (fail)
          go_wp2_with fail
          obtain ⟨W1, hW1⟩ : ∃ V, V = wr.drewN nq := ⟨_, rfl⟩
          rw [← hW1]
          have hbW1 : Below wr.heap.size wr W1 := by rw [hW1]; exact below_draws (Below.refl _ _) nq
          have hr1 := HR.out.below hbW1
          have ht1 := HT.out.trans (Turn.of_below hbW1)
          have hrow := HROW.out _ ht1
          have HI := Lib.hid (fun (v : World) (hv : Row v v.heap.size va (strVals ss)) => specIndexOf va vca ss (s.extract k j) v hl hv)
          have HRW := Lib.hid hrow
          have hns := name_state (ss := ss) (b := b) hkj hj HLOW.out (fun _ => by rw [Bool.eq_false_iff]; intro hx; rw [low_iff, HC.out] at hx; omega)
          have HNS := Lib.hid hns
          have hsl : ∀ V : World, (Instr.slice 9 (.string s) (some (.int .i64 (k : Int))) (some (.int .i64 (j : Int))) none).run Tryz.prog V = .ok (.string (s.extract k j)) V := fun V => by
            have h1 := run_slice_string (P := Tryz.prog) V 9 s .i64 .i64 (k : Int) (j : Int) Tryz.underlying9 (by omega) (by omega) (by omega)
            simpa using h1
          have d0 := hr1.box.c 0 _ rfl
          have d1 := hr1.box.c 1 _ rfl
          have d2 := hr1.box.c 2 _ rfl
          have d3 := hr1.box.c 3 _ rfl
          have df := hr1.box.f
          have HR1 := Lib.hid hr1
          have HT1 := Lib.hid ht1
          clear hrow hns hr1 ht1 hbW1 hW1 c0 c1 c2 c3 f
          cases b with
          | false =>
            go_quiet (first | (go_at_call 82; exact Calls.quiet_of_same ((HI.out _ (row_drawn HRW.out _)).mono fun e w' h => ⟨h.1, h.2.symm⟩)))
            go_wp2_with fail
            have hr2 := (HR1.out.below (below_draws (Below.refl _ _) nq)).mark (decide (place ss (s.extract k j) < 0))
            have ht2 := (HT1.out.trans (Turn.of_below (below_draws (Below.refl W1.heap.size W1) nq))).trans (turn_set (W1.drewN nq) R 3 (.bool (decide (place ss (s.extract k j) < 0))))
            have HT2 := Lib.hid ht2
            clear d0 d1 d2 d3 df ht2
            refine (specMust R va vca ss.length ⟨#[58]⟩ s j (decide (place ss (s.extract k j) < 0)) _ (by decide) hs hr2).mono ?_
            rintro e w4 ⟨rfl, k', b', he, h4, t4⟩
            have HE := Lib.hid (show (nameP ss (rdS s k false)).1 = place ss (s.extract k j) ∧ Step R va vca ss.length s (nameP ss (rdS s k false)).2 W w4 from ⟨by rw [HNS.out], by rw [HNS.out]; exact ⟨k', b', by simpa using he, h4, HT2.out.trans t4⟩⟩)
            clear hr2 he h4 t4
            go_wp2_with fail
            go_ret
            exact ⟨by rw [HE.out.1]; rfl, HE.out.2⟩
          | true =>
            go_quiet (first | (go_at_call 82; exact Calls.quiet_of_same ((HI.out _ (row_drawn HRW.out _)).mono fun e w' h => ⟨h.1, h.2.symm⟩)))
            go_wp2_with fail
            have hr2 := (HR1.out.below (below_draws (Below.refl _ _) nq)).mark true
            have ht2 := (HT1.out.trans (Turn.of_below (below_draws (Below.refl W1.heap.size W1) nq))).trans (turn_set (W1.drewN nq) R 3 (.bool true))
            have HT2 := Lib.hid ht2
            clear d0 d1 d2 d3 df ht2
            refine (specMust R va vca ss.length ⟨#[58]⟩ s j true _ (by decide) hs hr2).mono ?_
            rintro e w4 ⟨rfl, k', b', he, h4, t4⟩
            have HE := Lib.hid (show (nameP ss (rdS s k true)).1 = place ss (s.extract k j) ∧ Step R va vca ss.length s (nameP ss (rdS s k true)).2 W w4 from ⟨by rw [HNS.out], by rw [HNS.out]; exact ⟨k', b', by simpa using he, h4, HT2.out.trans t4⟩⟩)
            clear hr2 he h4 t4
            go_wp2_with fail
            go_ret
            exact ⟨by rw [HE.out.1]; rfl, HE.out.2⟩
        · have g1 : decide ((97 : Int) ≤ (c : Int)) = true := by simp; omega
          have g2 : decide ((c : Int) ≤ 122) = true := by simp; omega
          go_wp2_with fail
          go_quiet (fail)
          go_wp2_with fail
          have hr1 := (HR.out.below (below_draws (Below.refl _ _) nq)).go (j + 1) (by omega)
          have ht1 := (HT.out.trans (Turn.of_below (below_draws (Below.refl _ _) nq))).trans (turn_set (wr.drewN nq) R 2 (.int .i64 ((j + 1 : Nat) : Int)))
          go_roundw
          case rel =>
            refine ⟨j + 1, by omega, by omega, hr1, ht1, fun i h h1 h2 => ?_⟩
            rcases Nat.lt_or_ge i j with h3 | h3
            · exact HLOW.out i h h1 h3
            · obtain rfl : i = j := by omega
              rw [low_iff, HC.out]
              omega
          case measure =>
            have e1 : atOf R ((wr.drewN nq).setCell ⟨R, 2, none⟩ (.int .i64 ((j : Int) + 1))) = j + 1 := hr1.at_
            have e2 := HAT.out
            show s.size - atOf R ((wr.drewN nq).setCell ⟨R, 2, none⟩ (.int .i64 ((j : Int) + 1))) < s.size - atOf R wr
            omega
    · have hge' : decide (j < s.size) = false := by simp; omega
      go_wp2_with fail
      go_quiet (fail)
      go_wp2_with fail
      obtain ⟨W1, hW1⟩ : ∃ V, V = wr.drewN nq := ⟨_, rfl⟩
      rw [← hW1]
      have hbW1 : Below wr.heap.size wr W1 := by rw [hW1]; exact below_draws (Below.refl _ _) nq
      have hr1 := HR.out.below hbW1
      have ht1 := HT.out.trans (Turn.of_below hbW1)
      have hrow := HROW.out _ ht1
      have HI := Lib.hid (fun (v : World) (hv : Row v v.heap.size va (strVals ss)) => specIndexOf va vca ss (s.extract k j) v hl hv)
      have HRW := Lib.hid hrow
      have hns := name_state (ss := ss) (b := b) hkj hj HLOW.out (fun h => by omega)
      have HNS := Lib.hid hns
      have hsl : ∀ V : World, (Instr.slice 9 (.string s) (some (.int .i64 (k : Int))) (some (.int .i64 (j : Int))) none).run Tryz.prog V = .ok (.string (s.extract k j)) V := fun V => by
        have h1 := run_slice_string (P := Tryz.prog) V 9 s .i64 .i64 (k : Int) (j : Int) Tryz.underlying9 (by omega) (by omega) (by omega)
        simpa using h1
      have d0 := hr1.box.c 0 _ rfl
      have d1 := hr1.box.c 1 _ rfl
      have d2 := hr1.box.c 2 _ rfl
      have d3 := hr1.box.c 3 _ rfl
      have df := hr1.box.f
      have HR1 := Lib.hid hr1
      have HT1 := Lib.hid ht1
      clear hrow hns hr1 ht1 hbW1 hW1 c0 c1 c2 c3 f
      cases b with
      | false =>
        go_quiet (first | (go_at_call 82; exact Calls.quiet_of_same ((HI.out _ (row_drawn HRW.out _)).mono fun e w' h => ⟨h.1, h.2.symm⟩)))
        go_wp2_with fail
        have hr2 := (HR1.out.below (below_draws (Below.refl _ _) nq)).mark (decide (place ss (s.extract k j) < 0))
        have ht2 := (HT1.out.trans (Turn.of_below (below_draws (Below.refl W1.heap.size W1) nq))).trans (turn_set (W1.drewN nq) R 3 (.bool (decide (place ss (s.extract k j) < 0))))
        have HT2 := Lib.hid ht2
        clear d0 d1 d2 d3 df ht2
        refine (specMust R va vca ss.length ⟨#[58]⟩ s j (decide (place ss (s.extract k j) < 0)) _ (by decide) hs hr2).mono ?_
        rintro e w4 ⟨rfl, k', b', he, h4, t4⟩
        have HE := Lib.hid (show (nameP ss (rdS s k false)).1 = place ss (s.extract k j) ∧ Step R va vca ss.length s (nameP ss (rdS s k false)).2 W w4 from ⟨by rw [HNS.out], by rw [HNS.out]; exact ⟨k', b', by simpa using he, h4, HT2.out.trans t4⟩⟩)
        clear hr2 he h4 t4
        go_wp2_with fail
        go_ret
        exact ⟨by rw [HE.out.1]; rfl, HE.out.2⟩
      | true =>
        go_quiet (first | (go_at_call 82; exact Calls.quiet_of_same ((HI.out _ (row_drawn HRW.out _)).mono fun e w' h => ⟨h.1, h.2.symm⟩)))
        go_wp2_with fail
        have hr2 := (HR1.out.below (below_draws (Below.refl _ _) nq)).mark true
        have ht2 := (HT1.out.trans (Turn.of_below (below_draws (Below.refl W1.heap.size W1) nq))).trans (turn_set (W1.drewN nq) R 3 (.bool true))
        have HT2 := Lib.hid ht2
        clear d0 d1 d2 d3 df ht2
        refine (specMust R va vca ss.length ⟨#[58]⟩ s j true _ (by decide) hs hr2).mono ?_
        rintro e w4 ⟨rfl, k', b', he, h4, t4⟩
        have HE := Lib.hid (show (nameP ss (rdS s k true)).1 = place ss (s.extract k j) ∧ Step R va vca ss.length s (nameP ss (rdS s k true)).2 W w4 from ⟨by rw [HNS.out], by rw [HNS.out]; exact ⟨k', b', by simpa using he, h4, HT2.out.trans t4⟩⟩)
        clear hr2 he h4 t4
        go_wp2_with fail
        go_ret
        exact ⟨by rw [HE.out.1]; rfl, HE.out.2⟩
end Go.Proofs.YtplchhahjmoodaaGreatDoor
