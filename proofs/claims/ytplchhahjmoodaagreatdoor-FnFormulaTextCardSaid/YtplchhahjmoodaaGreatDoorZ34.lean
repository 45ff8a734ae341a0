/-
  The model's reader: it takes a word, or must take one.
-/
import Derived.Test.YtplchhahjmoodaaGreatDoorZ29
import Derived.Test.YtplchhahjmoodaaGreatDoorZ16
namespace Go.Proofs.YtplchhahjmoodaaGreatDoor
open Go Go.RowKit Go.ChangeAt Go.ChangeShapes Go.WideShapes

/-- The reader's box: the variables, the text, how far it has come, whether something was wrong. -/
structure RdAt (W : World) (R : Nat) (va : Option Addr) (vca n : Nat) (s : ByteArray) (k : Nat) (b : Bool) : Prop where
  box : BoxL W R [.slice va n vca, .string s, .int .i64 (k : Int), .bool b]
  le : k ≤ s.size
section
variable {W W' : World} {R : Nat} {va : Option Addr} {vca n : Nat} {s : ByteArray} {k : Nat} {b : Bool}
theorem RdAt.below (h : RdAt W R va vca n s k b) (hb : Below W.heap.size W W') : RdAt W' R va vca n s k b := ⟨h.box.below hb, h.le⟩
theorem RdAt.turn (h : RdAt W R va vca n s k b) {lo hi : Nat} (t : Turn lo hi W W') (hd : R < lo ∨ hi ≤ R) : RdAt W' R va vca n s k b := ⟨h.box.turn t hd, h.le⟩
theorem RdAt.go (h : RdAt W R va vca n s k b) (k' : Nat) (hk : k' ≤ s.size) : RdAt (W.setCell ⟨R, 2, none⟩ (.int .i64 (k' : Int))) R va vca n s k' b := ⟨h.box.set 2 (.int .i64 (k' : Int)), hk⟩
theorem RdAt.mark (h : RdAt W R va vca n s k b) (c : Bool) : RdAt (W.setCell ⟨R, 3, none⟩ (.bool c)) R va vca n s k c := ⟨h.box.set 3 (.bool c), h.le⟩
end
def rdS (s : ByteArray) (k : Nat) (b : Bool) : RdS := (s.data.toList.drop k, b)
def tkB (w s : ByteArray) (k : Nat) (b : Bool) : Bool := (takeP w.data.toList (rdS s k b)).1
theorem tk_bad (w s : ByteArray) (k : Nat) : tkB w s k true = false := by
  unfold tkB takeP rdS
  rw [if_neg (by simp)]
theorem tk_iff (w s : ByteArray) (k : Nat) : tkB w s k false = (w.data.toList.isPrefixOf (s.data.toList.drop k)) := by
  unfold tkB takeP rdS
  by_cases h : w.data.toList.isPrefixOf (s.data.toList.drop k) = true
  · rw [if_pos ⟨rfl, h⟩, h]
  · rw [if_neg (by simp [h])]
    exact (Bool.eq_false_iff.2 h).symm
theorem tk_snd (w s : ByteArray) (k : Nat) (b : Bool) : (takeP w.data.toList (rdS s k b)).2 = rdS s (if tkB w s k b = true then k + w.size else k) b := by
  cases b with
  | true =>
    rw [tk_bad, if_neg (by simp)]
    unfold takeP rdS
    rw [if_neg (by simp)]
  | false =>
    rw [tk_iff]
    unfold takeP rdS
    by_cases h : w.data.toList.isPrefixOf (s.data.toList.drop k) = true
    · rw [if_pos ⟨rfl, h⟩, if_pos h]
      simp [List.drop_drop]
    · rw [if_neg (by simp [h]), if_neg h]
theorem tk_le {w s : ByteArray} {k : Nat} {b : Bool} (hk : k ≤ s.size) (h : tkB w s k b = true) : k + w.size ≤ s.size := by
  cases b with
  | true => rw [tk_bad] at h; cases h
  | false =>
    rw [tk_iff, List.isPrefixOf_iff_prefix] at h
    have := h.length_le
    simp at this
    omega
theorem tk_cut {w s : ByteArray} {k : Nat} (_h : k + w.size ≤ s.size) : tkB w s k false = decide ((s.extract k (k + w.size)).data.toList = w.data.toList) := by
  rw [tk_iff]
  have he : (s.extract k (k + w.size)).data.toList = (s.data.toList.drop k).take w.size := by simp [List.take_drop]
  rw [he, Bool.eq_iff_iff, List.isPrefixOf_iff_prefix, decide_eq_true_eq]
  have hs : w.size = w.data.toList.length := by simp
  rw [hs]
  constructor
  · intro h
    exact (List.prefix_iff_eq_take.1 h).symm
  · intro h
    rw [List.prefix_iff_eq_take]
    exact h.symm
def Took (R : Nat) (va : Option Addr) (vca n : Nat) (w s : ByteArray) (k : Nat) (b : Bool) (W : World) (e : Ending) (W' : World) : Prop :=
  e = .returned (.bool (tkB w s k b)) ∧ RdAt W' R va vca n s (if tkB w s k b = true then k + w.size else k) b ∧ Turn R (R + 1) W W'
set_option maxRecDepth 100000 in
set_option maxHeartbeats 1600000 in
theorem specTake (R : Nat) (va : Option Addr) (vca n : Nat) (w s : ByteArray) (k : Nat) (b : Bool) (W : World) (hw : w.size ≤ 100) (hs : s.size ≤ 1099511627776) (h : RdAt W R va vca n s k b) :
    Calls Tryz.prog 88 #[.pointer (some ⟨R, 0, none⟩), .string w] W (Took R va vca n w s k b W) := by
  have c1 := h.box.c 1 _ rfl
  have c2 := h.box.c 2 _ rfl
  have c3 := h.box.c 3 _ rfl
  have f := h.box.f
  have hk := h.le
  have hwr : IntKind.i64.wrap ((k : Int) + (w.size : Int)) = (k : Int) + (w.size : Int) := by rw [IntKind.wrap_i64]; omega
  cases b with
  | true =>
    have HF := Lib.hid (show Took R va vca n w s k true W (.returned (.bool false)) W from ⟨by rw [tk_bad], by rw [tk_bad, if_neg (by simp)]; exact h, Turn.refl _ _ _⟩)
    have HD := Lib.hid (fun j => show Took R va vca n w s k true W (.returned (.bool false)) (W.drewN j) from ⟨by rw [tk_bad], by rw [tk_bad, if_neg (by simp)]; exact h.below (below_draws (Below.refl _ _) j), Turn.of_below (below_draws (Below.refl _ _) j)⟩)
    clear h
    go_enter Tryz.func88, Tryz.ntmps88
    go_wp2_with fail
    go_quiet (fail)
    go_wp2_with fail
    go_ret
    exact HD.out _
  | false =>
    by_cases hgt : (s.size : Int) < (k : Int) + (w.size : Int)
    · have ht : tkB w s k false = false := by
        cases ht : tkB w s k false with
        | false => rfl
        | true => have := tk_le hk ht; omega
      have HD := Lib.hid (fun j => show Took R va vca n w s k false W (.returned (.bool false)) (W.drewN j) from ⟨by rw [ht], by rw [ht, if_neg (by simp)]; exact h.below (below_draws (Below.refl _ _) j), Turn.of_below (below_draws (Below.refl _ _) j)⟩)
      have hg : decide ((s.size : Int) < (k : Int) + (w.size : Int)) = true := by simpa using hgt
      clear h ht
      go_enter Tryz.func88, Tryz.ntmps88
      go_wp2_with fail
      go_quiet (fail)
      go_wp2_with fail
      go_ret
      exact HD.out _
    · have hle : k + w.size ≤ s.size := by omega
      have hcut := tk_cut hle
      have hg : decide ((s.size : Int) < (k : Int) + (w.size : Int)) = false := by simp; omega
      have hsl : ∀ V : World, (Instr.slice 9 (.string s) (some (.int .i64 (k : Int))) (some (.int .i64 ((k : Int) + (w.size : Int)))) none).run Tryz.prog V = .ok (.string (s.extract k (k + w.size))) V := fun V => by
        have h1 := run_slice_string (P := Tryz.prog) V 9 s .i64 .i64 (k : Int) ((k : Int) + (w.size : Int)) Tryz.underlying9 (by omega) (by omega) (by omega)
        have e1 : ((k : Int)).toNat = k := by omega
        have e2 : ((k : Int) + (w.size : Int)).toNat = k + w.size := by omega
        rw [e1, e2] at h1
        exact h1
      by_cases heq : (s.extract k (k + w.size)).data.toList = w.data.toList
      · have ht : tkB w s k false = true := by rw [hcut, decide_eq_true heq]
        have hls : ((s.extract k (k + w.size)).toList == w.toList) = true := by rw [ByteArray.toList_eq]; exact lists_eq heq
        have hls2 : ((s.extract k (k + w.size)).toList != w.toList) = false := by rw [bne, hls]; rfl
        have HD := Lib.hid (fun j => show Took R va vca n w s k false W (.returned (.bool true)) ((W.drewN j).setCell ⟨R, 2, none⟩ (.int .i64 ((k + w.size : Nat) : Int))) from ⟨by rw [ht], by rw [ht, if_pos rfl]; exact (h.below (below_draws (Below.refl _ _) j)).go _ hle, (Turn.of_below (below_draws (Below.refl _ _) j)).trans (turn_set _ R 2 _)⟩)
        clear h ht hcut heq
        go_enter Tryz.func88, Tryz.ntmps88
        go_wp2_with fail
        go_quiet (fail)
        go_wp2_with fail
        go_ret
        exact HD.out _
      · have ht : tkB w s k false = false := by rw [hcut, decide_eq_false heq]
        have hls : ((s.extract k (k + w.size)).toList == w.toList) = false := by rw [ByteArray.toList_eq]; exact lists_ne heq
        have hls2 : ((s.extract k (k + w.size)).toList != w.toList) = true := by rw [bne, hls]; rfl
        have HD := Lib.hid (fun j => show Took R va vca n w s k false W (.returned (.bool false)) (W.drewN j) from ⟨by rw [ht], by rw [ht, if_neg (by simp)]; exact h.below (below_draws (Below.refl _ _) j), Turn.of_below (below_draws (Below.refl _ _) j)⟩)
        clear h ht hcut heq
        go_enter Tryz.func88, Tryz.ntmps88
        go_wp2_with fail
        go_quiet (fail)
        go_wp2_with fail
        go_ret
        exact HD.out _
end Go.Proofs.YtplchhahjmoodaaGreatDoor
