/-
  The model's reader: it must take a word; logic variables; names.
-/
import Derived.Test.YtplchhahjmoodaaGreatDoorZ34
namespace Go.Proofs.YtplchhahjmoodaaGreatDoor
open Go Go.RowKit Go.ChangeAt Go.ChangeShapes Go.WideShapes

/-- The reader went on to this state; nothing else old has turned. -/
def Step (R : Nat) (va : Option Addr) (vca n : Nat) (s : ByteArray) (r' : RdS) (W W' : World) : Prop := ∃ k' b', r' = rdS s k' b' ∧ RdAt W' R va vca n s k' b' ∧ Turn R (R + 1) W W'
theorem Took.step {R : Nat} {va : Option Addr} {vca n : Nat} {w s : ByteArray} {k : Nat} {b : Bool} {W W' : World} {e : Ending} (h : Took R va vca n w s k b W e W') : e = .returned (.bool (takeP w.data.toList (rdS s k b)).1) ∧ Step R va vca n s (takeP w.data.toList (rdS s k b)).2 W W' :=
  ⟨h.1, _, _, tk_snd w s k b, h.2.1, h.2.2⟩
theorem must_rd (w s : ByteArray) (k : Nat) (b : Bool) : mustP w.data.toList (rdS s k b) = rdS s (if tkB w s k b = true then k + w.size else k) (b || !tkB w s k b) := by
  unfold mustP
  rw [tk_snd]
  rfl
set_option maxRecDepth 100000 in
set_option maxHeartbeats 1600000 in
theorem specMust (R : Nat) (va : Option Addr) (vca n : Nat) (w s : ByteArray) (k : Nat) (b : Bool) (W : World) (hw : w.size ≤ 100) (hs : s.size ≤ 1099511627776) (h : RdAt W R va vca n s k b) :
    Calls Tryz.prog 93 #[.pointer (some ⟨R, 0, none⟩), .string w] W (fun e W' => e = .returned (.tuple #[]) ∧ Step R va vca n s (mustP w.data.toList (rdS s k b)) W W') := by
  have c3 := h.box.c 3 _ rfl
  have f := h.box.f
  cases b with
  | true =>
    have HF := Lib.hid (show Step R va vca n s (mustP w.data.toList (rdS s k true)) W (W.setCell ⟨R, 3, none⟩ (.bool true)) from ⟨k, true, by rw [must_rd, tk_bad, if_neg (by simp)]; rfl, h.mark true, turn_set W R 3 _⟩)
    clear h
    go_enter Tryz.func93, Tryz.ntmps93
    go_wp2_with fail
    go_end0
    exact ⟨rfl, HF.out⟩
  | false =>
    have HT := Lib.hid (specTake R va vca n w s k false W hw hs h)
    have HM := Lib.hid (must_rd w s k false)
    clear h
    go_enter Tryz.func93, Tryz.ntmps93
    go_wp2_with fail
    refine HT.out.mono ?_
    rintro e w1 ⟨rfl, h1, t1⟩
    have f1 := h1.box.f
    have c31 := h1.box.c 3 _ rfl
    obtain ⟨c, hc⟩ : ∃ c, tkB w s k false = c := ⟨_, rfl⟩
    rw [hc] at h1 HM ⊢
    have HE := Lib.hid (show Step R va vca n s (mustP w.data.toList (rdS s k false)) W (w1.setCell ⟨R, 3, none⟩ (.bool (!c))) from ⟨_, _, HM.out, h1.mark (!c), t1.trans (turn_set w1 R 3 _)⟩)
    clear h1 t1 hc c3 f
    cases c
    · go_wp2_with fail
      go_end0
      exact ⟨rfl, HE.out⟩
    · go_wp2_with fail
      go_end0
      exact ⟨rfl, HE.out⟩
theorem letter_size_le (n : Int) : (letterT n).size ≤ 100 := by rw [letterT_size]; omega
set_option maxRecDepth 100000 in
set_option maxHeartbeats 1600000 in
theorem specVar (R : Nat) (va : Option Addr) (vca n : Nat) (s : ByteArray) (k : Nat) (b : Bool) (W : World) (hs : s.size ≤ 1099511627776) (h : RdAt W R va vca n s k b) :
    Calls Tryz.prog 90 #[.pointer (some ⟨R, 0, none⟩)] W (fun e W' => e = .returned (.int .i64 (varP (rdS s k b)).1) ∧ Step R va vca n s (varP (rdS s k b)).2 W W') := by
  have hvar : varP (rdS s k b) = if tkB (letterT 0) s k b = true then (0, rdS s (k + 1) b) else if tkB (letterT 1) s k b = true then (1, rdS s (k + 1) b) else if tkB (letterT 2) s k b = true then (2, rdS s (k + 1) b) else if tkB (letterT 3) s k b = true then (3, rdS s (k + 1) b) else (0, rdS s k true) := by
    have e : ∀ i : Int, (takeP (letterT i).data.toList (rdS s k b)).2 = rdS s (if tkB (letterT i) s k b = true then k + 1 else k) b := fun i => by rw [tk_snd, letterT_size]
    have e0 := e 0
    have e1 := e 1
    have e2 := e 2
    have e3 := e 3
    unfold varP
    have g0 : (takeP [117] (rdS s k b)).1 = tkB (letterT 0) s k b := rfl
    have g1 : (takeP [118] (rdS s k b)).1 = tkB (letterT 1) s k b := rfl
    have g2 : (takeP [119] (rdS s k b)).1 = tkB (letterT 2) s k b := rfl
    have g3 : (takeP [122] (rdS s k b)).1 = tkB (letterT 3) s k b := rfl
    have i0 : (takeP [117] (rdS s k b)).2 = (takeP (letterT 0).data.toList (rdS s k b)).2 := rfl
    have i1 : (takeP [118] (rdS s k b)).2 = (takeP (letterT 1).data.toList (rdS s k b)).2 := rfl
    have i2 : (takeP [119] (rdS s k b)).2 = (takeP (letterT 2).data.toList (rdS s k b)).2 := rfl
    have i3 : (takeP [122] (rdS s k b)).2 = (takeP (letterT 3).data.toList (rdS s k b)).2 := rfl
    rw [g0, g1, g2, g3, i0, i1, i2, i3, e0, e1, e2, e3]
    by_cases t0 : tkB (letterT 0) s k b = true
    · simp [t0]
    by_cases t1 : tkB (letterT 1) s k b = true
    · simp [t0, t1]
    by_cases t2 : tkB (letterT 2) s k b = true
    · simp [t0, t1, t2]
    by_cases t3 : tkB (letterT 3) s k b = true
    · simp [t0, t1, t2, t3]
    simp [t0, t1, t2, t3, rdS]
  have HV := Lib.hid hvar
  have HTK := Lib.hid (fun (i : Int) (V : World) (hV : RdAt V R va vca n s k b) => specTake R va vca n (letterT i) s k b V (letter_size_le i) hs hV)
  have H := Lib.hid h
  clear hvar h
  go_enter Tryz.func90, Tryz.ntmps90
  go_wp2_with fail
  go_loopw [3] (fun i wr => ∃ j : Nat, j ≤ 4 ∧ i = .int .i64 j ∧ (∀ m : Nat, m < j → tkB (letterT (m : Int)) s k b = false) ∧ RdAt wr R va vca n s k b ∧ Turn R (R + 1) W wr) (fun i _ => 4 - (intOf i).toNat)
  case atStart => exact ⟨0, Nat.zero_le _, rfl, fun m hm => by omega, H.out, Turn.refl _ _ _⟩
  case round =>
    obtain ⟨j, hj, rfl, hno, hr, ht⟩ := hrel
    have HNO := Lib.hid hno
    clear hno
    by_cases hlt : j < 4
    · have HR := Lib.hid hr
      have HT := Lib.hid ht
      have hl := specLetter (j : Int) (by omega)
      have HL := Lib.hid hl
      clear hr ht hl
      go_wp2_with fail
      refine (HL.out _).mono ?_
      rintro e w1 ⟨rfl, rfl⟩
      go_wp2_with fail
      refine (HTK.out (j : Int) _ HR.out).mono ?_
      rintro e w2 ⟨rfl, h2, t2⟩
      rw [letterT_size] at h2
      obtain ⟨c, hc⟩ : ∃ c, tkB (letterT (j : Int)) s k b = c := ⟨_, rfl⟩
      rw [hc] at h2 ⊢
      have HC := Lib.hid hc
      have H2 := Lib.hid h2
      have T2 := Lib.hid (HT.out.trans t2)
      clear h2 t2 hc
      cases c
      · go_wp2_with fail
        go_roundw
        case rel =>
          refine ⟨j + 1, by omega, by go_num, fun m hm => ?_, by simpa using H2.out, T2.out⟩
          rcases Nat.lt_or_ge m j with h | h
          · exact HNO.out m h
          · obtain rfl : m = j := by omega
            exact HC.out
        case measure => simp [intOf]; omega
      · go_wp2_with fail
        go_ret
        have hval : varP (rdS s k b) = ((j : Int), rdS s (k + 1) b) := by
          rw [HV.out]
          have hno := HNO.out
          have hy := HC.out
          have h4 : j = 0 ∨ j = 1 ∨ j = 2 ∨ j = 3 := by omega
          rcases h4 with rfl | rfl | rfl | rfl
          · have hy' : tkB (letterT (0 : Int)) s k b = true := hy
            rw [if_pos hy']; rfl
          · have hy' : tkB (letterT (1 : Int)) s k b = true := hy
            have n0 : tkB (letterT (0 : Int)) s k b = false := hno 0 (by omega)
            rw [if_neg (by rw [n0]; simp), if_pos hy']; rfl
          · have hy' : tkB (letterT (2 : Int)) s k b = true := hy
            have n0 : tkB (letterT (0 : Int)) s k b = false := hno 0 (by omega)
            have n1 : tkB (letterT (1 : Int)) s k b = false := hno 1 (by omega)
            rw [if_neg (by rw [n0]; simp), if_neg (by rw [n1]; simp), if_pos hy']; rfl
          · have hy' : tkB (letterT (3 : Int)) s k b = true := hy
            have n0 : tkB (letterT (0 : Int)) s k b = false := hno 0 (by omega)
            have n1 : tkB (letterT (1 : Int)) s k b = false := hno 1 (by omega)
            have n2 : tkB (letterT (2 : Int)) s k b = false := hno 2 (by omega)
            rw [if_neg (by rw [n0]; simp), if_neg (by rw [n1]; simp), if_neg (by rw [n2]; simp), if_pos hy']; rfl
        exact ⟨by rw [hval]; rfl, by rw [hval]; exact ⟨k + 1, b, rfl, by simpa using H2.out, T2.out⟩⟩
    · obtain rfl : j = 4 := by omega
      have f := hr.box.f
      have c3 := hr.box.c 3 _ rfl
      have hval : varP (rdS s k b) = (0, rdS s k true) := by
        rw [HV.out]
        have n0 : tkB (letterT (0 : Int)) s k b = false := HNO.out 0 (by omega)
        have n1 : tkB (letterT (1 : Int)) s k b = false := HNO.out 1 (by omega)
        have n2 : tkB (letterT (2 : Int)) s k b = false := HNO.out 2 (by omega)
        have n3 : tkB (letterT (3 : Int)) s k b = false := HNO.out 3 (by omega)
        rw [if_neg (by rw [n0]; simp), if_neg (by rw [n1]; simp), if_neg (by rw [n2]; simp), if_neg (by rw [n3]; simp)]
      have HVAL := Lib.hid hval
      have HEND := Lib.hid (show Step R va vca n s (rdS s k true) W (wr.setCell ⟨R, 3, none⟩ (.bool true)) from ⟨k, true, rfl, hr.mark true, ht.trans (turn_set wr R 3 _)⟩)
      clear hr ht hval hlt
      go_wp2_with fail
      go_ret
      exact ⟨by rw [HVAL.out]; rfl, by rw [HVAL.out]; exact HEND.out⟩
end Go.Proofs.YtplchhahjmoodaaGreatDoor
