/-
  Several texts of one proof in one file, in the order in which they build.
-/
import Derived.Lib.ItoaNum
import Derived.Laws.BytesString
import Derived.Laws.IdiomStrings
import Derived.Test.YtplchhahjmoodaaDoorChecked
import Derived.Deep.RegionHeld3
import Derived.Test.YtplchhahjmoodaaDoorZ02
import Derived.Test.YtplchhahjmoodaaDoorZ28
/-
  Decimal digits as the model's loop makes them; a byte of the call's own turned into a string. Nothing here knows of the program.
-/
namespace Go.Proofs.YtplchhahjmoodaaDoor
open Go Go.ChangeShapes Go.WideShapes Go.ChangeAt Go.RowKit

/-- The digits that are still to come: none of 0. -/
def digs (u : Nat) : List UInt8 := if u = 0 then [] else Lib.decDigits u
theorem digs_zero : digs 0 = [] := rfl
theorem digs_pos {u : Nat} (h : 0 < u) : digs u = Lib.decDigits u := by unfold digs; rw [if_neg (by omega)]
theorem digs_next {u : Nat} (h : 0 < u) : digs u = digs (u / 10) ++ [UInt8.ofNat (48 + u % 10)] := by
  by_cases h10 : u < 10
  · rw [digs_pos h, Lib.decDigits_one h10, show u / 10 = 0 by omega, digs_zero, show u % 10 = u by omega]
    rfl
  · rw [digs_pos h, digs_pos (show 0 < u / 10 by omega), Lib.decDigits, dif_neg h10]

theorem digs_length : ∀ (k u : Nat), u ≤ k → (digs u).length ≤ u
  | 0, u, h => by
    obtain rfl : u = 0 := by omega
    simp [digs_zero]
  | k + 1, u, h => by
    by_cases h0 : 0 < u
    · have ih := digs_length k (u / 10) (by omega)
      rw [digs_next h0, List.length_append, List.length_singleton]
      omega
    · obtain rfl : u = 0 := by omega
      simp [digs_zero]
/-- While digits are still to come, one more fits. -/
theorem digs_room {u N : Nat} {l : List UInt8} (h0 : 0 < u) (h : digs u ++ l = digs N) : 1 + l.length ≤ N / 10 + 1 := by
  have h1 := congrArg List.length h
  rw [digs_next h0, List.length_append, List.length_append, List.length_singleton] at h1
  by_cases hN : 0 < N
  · rw [digs_next hN, List.length_append, List.length_singleton] at h1
    have h2 := digs_length (N / 10) (N / 10) (Nat.le_refl _)
    omega
  · obtain rfl : N = 0 := by omega
    simp [digs_zero] at h1
theorem bytes_cons (x : UInt8) (l : List UInt8) : (⟨#[x]⟩ : ByteArray) ++ ⟨l.toArray⟩ = ⟨(x :: l).toArray⟩ := by
  apply ByteArray.ext
  simp

theorem byte_split (k : Nat) : UInt8.ofNat (48 + k) = 48 + UInt8.ofNat k := by
  simp

theorem tmod_neg (u : Nat) : (-(u : Int)).tmod 10 = -((u % 10 : Nat) : Int) := by
  rw [Int.neg_tmod, Int.tmod_eq_emod_of_nonneg (by omega)]
  omega
theorem tdiv_neg (u : Nat) : (-(u : Int)).tdiv 10 = -((u / 10 : Nat) : Int) := by
  rw [Int.neg_tdiv, Int.tdiv_eq_ediv_of_nonneg (by omega)]
  omega

/-- string of one byte that was just made. -/
theorem conv_byte {P : Program} {src dst e : TypeId} (hs : P.underlying src = some (.slice e)) (he : P.underlying e = some (.int .u8)) (hd : P.underlying dst = some .string) (W : World) (x : Nat) (hx : x < 256) :
    (convert src dst (.slice (some ⟨W.heap.size, 0, none⟩) 1 1)).run P (W.alloc (.cells #[.int .u8 (x : Int)] e)) = .ok (.string ⟨#[UInt8.ofNat x]⟩) (W.alloc (.cells #[.int .u8 (x : Int)] e)) := by
  have h := run_convert_bytes_back (P := P) (W.alloc (.cells #[.int .u8 (x : Int)] e)) src dst e ⟨W.heap.size, 0, none⟩ 1 [UInt8.ofNat x] hs he hd (fun j hj => by
    have : j = 0 := by simpa using hj
    subst this
    have hn : (UInt8.ofNat x).toNat = x := by simp; omega
    rw [add_plain]
    simp only [List.getElem_cons_zero, hn, Nat.zero_add]
    exact World.cell?_alloc_at _ _ _ _ rfl)
  exact h
end Go.Proofs.YtplchhahjmoodaaDoor
/-
  The law's comparison of two []string: true where both hold the same strings.
-/
namespace Go.Proofs.YtplchhahjmoodaaDoor
open Go Go.RowKit

/-- It answers true, and the world is as it was, but for draws. -/
def SameEnd (r : Bool) (w : World) (e : Ending) (w' : World) : Prop := ∃ n, e = .returned (.bool r) ∧ w' = w.drewN n

set_option maxHeartbeats 400000 in
theorem eqStrs (a b : Option Addr) (ca cb : Nat) (ss : List ByteArray) (w : World) (hn : ss.length ≤ maxLen) (ha : Row w w.heap.size a (strVals ss)) (hb : Row w w.heap.size b (strVals ss)) :
    Calls Tryd.prog 10 #[.slice a ss.length ca, .slice b ss.length cb] w (SameEnd true w) := by
  unfold maxLen at hn
  go_enter Tryd.func10, Tryd.ntmps10
  go_wp2
  go_loopw [5] (fun i wr => ∃ (k n : Nat), k ≤ ss.length ∧ i = .int .i64 k ∧ wr = w.drewN n) (fun i _ => ss.length - (intOf i).toNat)
  case atStart => exact ⟨0, 0, Nat.zero_le _, rfl, rfl⟩
  case round =>
    obtain ⟨k, n, hk, rfl, rfl⟩ := hrel
    by_cases hlt : k < ss.length
    · obtain ⟨ba, oa, rfl, _, hca⟩ := ha k (.string ss[k]) (by simp [strVals, hlt])
      obtain ⟨bb, ob, rfl, _, hcb⟩ := hb k (.string ss[k]) (by simp [strVals, hlt])
      go_wp2
      go_quiet (fail)
      go_wp2
      go_roundw
      case rel => exact ⟨k + 1, _, by omega, by go_num, rfl⟩
      case measure => simp [intOf]; omega
    · go_wp2
      go_ret
      exact ⟨_, rfl, rfl⟩
end Go.Proofs.YtplchhahjmoodaaDoor
/-
  The law's size guard over a []string: what it lets through is small.
-/
namespace Go.Proofs.YtplchhahjmoodaaDoor
open Go Go.RowKit

/-- The guard's answer: an int; where it is not negative, the strings and their number fit into the allowance. -/
def SzEnd (ss : List ByteArray) (left : Nat) (w : World) (e : Ending) (w' : World) : Prop :=
  ∃ r : Int, e = .returned (.int .i64 r) ∧ w = w' ∧ r ≤ left ∧ (0 ≤ r → (ss.length : Int) + total ss + r = left)

set_option maxHeartbeats 400000 in
theorem szStrs (a : Option Addr) (cap : Nat) (ss : List ByteArray) (left : Nat) (w : World) (hl : left ≤ 1099511627776) (hlen : ss.length ≤ maxLen) (hws : ∀ s ∈ ss, s.size ≤ maxLen) (hrow : Row w w.heap.size a (strVals ss)) :
    Calls Tryd.prog 5 #[.slice a ss.length cap, .int .i64 left] w (SzEnd ss left w) := by
  unfold maxLen at hlen
  by_cases h0 : left < ss.length
  · have hb : (left : Int) - ss.length < 0 := by omega
    go_enter Tryd.func5, Tryd.ntmps5
    go_wp2
    go_ret
    exact ⟨-1, rfl, rfl, by omega, fun h => by omega⟩
  · have hb : ¬ (left : Int) - ss.length < 0 := by omega
    go_enter Tryd.func5, Tryd.ntmps5
    go_wp2
    go_loop [1, 5] (fun l i => ∃ k m : Nat, k ≤ ss.length ∧ i = .int .i64 k ∧ l = .int .i64 m ∧ ss.length + total (ss.take k) + m = left) (fun _ i => ss.length - (intOf i).toNat)
    case atStart => exact ⟨0, left - ss.length, Nat.zero_le _, rfl, by congr 1; omega, by simp [total]; omega⟩
    case round =>
      obtain ⟨k, m, hk, rfl, rfl, hsum⟩ := hrel
      by_cases hlt : k < ss.length
      · obtain ⟨b, o, rfl, hbW, hc⟩ := hrow k (.string ss[k]) (by simp [strVals, hlt])
        have hsz : ss[k].size ≤ 9223372036854775807 := by have := hws ss[k] (List.getElem_mem hlt); unfold maxLen at this; omega
        have hnx := total_take_next ss k hlt
        have Hsum := Lib.hid hsum
        have Hnx := Lib.hid hnx
        have hm : m ≤ 1099511627776 := by omega
        clear hsum hnx
        by_cases hneg : (m : Int) - ss[k].size < 0
        · go_wp2
          go_ret
          exact ⟨-1, rfl, rfl, by omega, fun h => by omega⟩
        · go_wp2
          go_round
          case rel =>
            have h1 := Hsum.out
            have h2 := Hnx.out
            exact ⟨k + 1, m - ss[k].size, by omega, by go_num, by congr 1; omega, by omega⟩
          case measure => simp [intOf]; omega
      · have hk' : k = ss.length := by omega
        have Hk := Lib.hid hk'
        have Hsum := Lib.hid hsum
        clear hk' hsum
        go_wp2
        go_ret
        have h1 := Hsum.out
        rw [Hk.out, List.take_length] at h1
        exact ⟨m, rfl, rfl, by omega, fun _ => by omega⟩
end Go.Proofs.YtplchhahjmoodaaDoor
/-
  The law's own copy of a []string: a new row with the same strings.
-/
namespace Go.Proofs.YtplchhahjmoodaaDoor
open Go Go.RowKit

theorem strInfo : (Tryd.prog.info? 9).map (fun i => (i.zero, i.size, i.bytes)) = some (some (.string ⟨#[]⟩), 1, 16) := by kernel_rfl

/-- A new slice at the heap's end that holds the strings; nothing old has turned. -/
def CopyEnd (ss : List ByteArray) (w : World) (e : Ending) (w' : World) : Prop :=
  e = .returned (.slice (some ⟨w.heap.size, 0, none⟩) ss.length ss.length) ∧ w'.ownsRow w.heap.size 9 1 (.slice (some ⟨w.heap.size, 0, none⟩) ss.length ss.length) ss.length (strVals ss) ∧ Below w.heap.size w w'

theorem set_take {α : Type} (ys : List α) (k : Nat) (x : α) (h : k < ys.length) : (ys.set k x).take (k + 1) = ys.take k ++ [x] := by
  rw [List.take_succ_eq_append_getElem (by simpa using h)]
  simp [List.take_set_of_le]

set_option maxHeartbeats 400000 in
theorem toStrs (a : Option Addr) (cap : Nat) (ss : List ByteArray) (w : World) (hn : ss.length ≤ 1099511627776) (hrow : Row w w.heap.size a (strVals ss)) :
    Calls Tryd.prog 7 #[.slice a ss.length cap] w (CopyEnd ss w) := by
  obtain ⟨i0, hi, hz0, hz1, hz2⟩ := info_parts strInfo
  go_enter Tryd.func7, Tryd.ntmps7
  go_wp2_with (at_make; refine wpList_make_full _ rfl _ _ 22 rfl w.heap.size 9 i0 (.string ⟨#[]⟩) 1 Tryd.underlying22 hi hz0 hz1 _ _ _ _ ss.length rfl rfl rfl rfl ?b2 ?b3 (Nat.le_refl _) ?_)
  case b2 => rw [hz2]; omega
  case b3 => unfold maxLen; omega
  intro w0 hown0 hgrow0
  go_wp2
  go_loopw [4] (fun i wr => ∃ (k : Nat) (ys : List Value), k ≤ ss.length ∧ i = .int .i64 k ∧ ys.take k = strVals (ss.take k) ∧ ys.length = ss.length ∧
      wr.ownsRow w.heap.size 9 1 (.slice (some ⟨w.heap.size, 0, none⟩) ss.length ss.length) ss.length ys ∧ Below w.heap.size w wr)
    (fun i _ => ss.length - (intOf i).toNat)
  case atStart => exact ⟨0, _, Nat.zero_le _, rfl, by simp [strVals], by simpa using hown0.1, hown0, (Below.refl _ _).grown hgrow0 (Nat.le_refl _) (fun k h => by cases h)⟩
  case round =>
    obtain ⟨k, ys, hk, rfl, hys, hyl, hown, hb⟩ := hrel
    by_cases hlt : k < ss.length
    · obtain ⟨b, o, rfl, hbW, hc⟩ := hrow k (.string ss[k]) (by simp [strVals, hlt])
      have hc1 : wr.cell? ⟨b, o + k, none⟩ = some (.string ss[k]) := (hb.cell (p := ⟨b, o + k, none⟩) hbW).trans hc
      obtain ⟨old, hold⟩ : ∃ old, wr.cell? ⟨w.heap.size, k, none⟩ = some old := ⟨_, (hown.cellAt k (by omega)).trans (List.getElem?_eq_getElem (by omega))⟩
      have hfr := hown.frozenAt k
      have hst := hown.stored k (.string ss[k])
      have Hys := Lib.hid hys
      have Hyl := Lib.hid hyl
      have hklt : k < ys.length := by omega
      clear hys hyl hown hc
      go_wp2
      go_roundw
      case rel => exact ⟨k + 1, ys.set k (.string ss[k]), by omega, by go_num, by rw [set_take ys k _ hklt, Hys.out, take_next ss k hlt]; exact (strVals_snoc _ _).symm, by rw [List.length_set]; exact Hyl.out, hst.1, hb.setCell (by exact Nat.le_refl _) _⟩
      case measure => simp [intOf]; omega
    · have hk' : k = ss.length := by omega
      have Hk := Lib.hid hk'
      have Hys := Lib.hid hys
      have Hyl := Lib.hid hyl
      clear hk' hys hyl
      go_wp2
      go_ret
      have hfull : ys = strVals ss := by
        have h1 := Hys.out
        rw [Hk.out, List.take_length, List.take_of_length_le (by rw [Hyl.out]; exact Nat.le_refl _)] at h1
        exact h1
      rw [hfull] at hown
      exact ⟨rfl, hown, hb⟩
end Go.Proofs.YtplchhahjmoodaaDoor
/-
  The law's marks: the text of mark k is the letter m and k's decimal digits.
-/
namespace Go.Proofs.YtplchhahjmoodaaDoor
open Go Go.RowKit

def markS (k : Nat) : ByteArray := ⟨(109 :: Lib.decDigits k).toArray⟩
def MarkEnd (k : Nat) (w : World) (e : Ending) (w' : World) : Prop := e = .returned (.string (markS k)) ∧ Below w.heap.size w w'
theorem mark_next (k : Nat) (l : List UInt8) : Value.string ((⟨#[48 + UInt8.ofNat k]⟩ : ByteArray) ++ ⟨l.toArray⟩) = Value.string ⟨(UInt8.ofNat (48 + k) :: l).toArray⟩ := by
  rw [byte_split]
  exact congrArg Value.string (bytes_cons _ l)

set_option maxRecDepth 100000 in
set_option maxHeartbeats 400000 in
theorem markText_pos (N : Nat) (h0 : 0 < N) (h1 : N ≤ 1099511627776) (w : World) : Calls Tryd.prog 24 #[.int .i64 N] w (MarkEnd N w) := by
  go_enter Tryd.func24, Tryd.ntmps24
  go_wp2
  go_loopw [0, 3] (fun n out wr => ∃ (u : Nat) (l : List UInt8), u ≤ N ∧ n = .int .i64 u ∧ out = .string ⟨l.toArray⟩ ∧ digs u ++ l = digs N ∧ Below w.heap.size w wr) (fun n _ _ => (intOf n).toNat)
  case atStart => exact ⟨N, [], Nat.le_refl _, rfl, rfl, by simp, Below.refl _ _⟩
  case round =>
    obtain ⟨u, l, hu, rfl, rfl, hd, hb⟩ := hrel
    by_cases hlt : 0 < u
    · have hnx := digs_next hlt
      have hroom := digs_room hlt hd
      have hl : 1 + l.length ≤ 9223372036854775807 := by omega
      have Hd := Lib.hid hd
      have Hnx := Lib.hid hnx
      clear hd hnx hroom
      have kc : ∀ W : World, (convert 83 9 (.slice (some ⟨W.heap.size, 0, none⟩) 1 1)).run Tryd.prog (W.alloc (.cells #[.int .u8 (48 + (u : Int) % 10)] 5)) = .ok (.string ⟨#[UInt8.ofNat (48 + u % 10)]⟩) (W.alloc (.cells #[.int .u8 (48 + (u : Int) % 10)] 5)) := fun W => by
        have h := conv_byte (P := Tryd.prog) Tryd.underlying83 Tryd.underlying5 Tryd.underlying9 W (48 + u % 10) (by omega)
        have e : ((48 + u % 10 : Nat) : Int) = 48 + (u : Int) % 10 := by omega
        rw [e] at h
        exact h
      go_wp2
      go_roundw
      case rel => exact ⟨u / 10, UInt8.ofNat (48 + u % 10) :: l, by omega, by go_num, mark_next _ _, by rw [← Hd.out, Hnx.out]; simp, hb.alloc hb.size _⟩
      case measure => simp [intOf]; omega
    · have hu0 : u = 0 := by omega
      subst hu0
      have Hd := Lib.hid hd
      clear hd
      have hlen : 1 + l.length ≤ 9223372036854775807 := by
        have h := congrArg List.length Hd.out
        rw [digs_zero, List.nil_append, digs_next h0, List.length_append, List.length_singleton] at h
        have h2 := digs_length (N / 10) (N / 10) (Nat.le_refl _)
        omega
      have hfin : l = Lib.decDigits N := by
        have h := Hd.out
        rw [digs_zero, List.nil_append, digs_pos h0] at h
        exact h
      have Hfin := Lib.hid hfin
      clear hfin
      go_wp2
      go_ret
      exact ⟨by rw [markS, ← Hfin.out, ← bytes_cons]; rfl, hb⟩
theorem markText (N : Nat) (h1 : N ≤ 1099511627776) (w : World) : Calls Tryd.prog 24 #[.int .i64 N] w (MarkEnd N w) := by
  by_cases h0 : 0 < N
  · exact markText_pos N h0 h1 w
  · obtain rfl : N = 0 := by omega
    go_enter Tryd.func24, Tryd.ntmps24
    go_wp2
    go_ret
    exact ⟨by rw [markS, Lib.decDigits_one (by omega)]; rfl, Below.refl _ _⟩
end Go.Proofs.YtplchhahjmoodaaDoor
/-
  The law writes marks into a []string of the program's answer, and looks later whether they are still there.
-/
namespace Go.Proofs.YtplchhahjmoodaaDoor
open Go Go.RowKit

def marksFrom (k n : Nat) : List ByteArray := (List.range n).map fun i => markS (k + i)
theorem marks_length (k n : Nat) : (marksFrom k n).length = n := by simp [marksFrom]
theorem marks_next (k n : Nat) : marksFrom k (n + 1) = marksFrom k n ++ [markS (k + n)] := by simp [marksFrom, List.range_succ]
theorem marks_at (k n j : Nat) (h : j < n) : (strVals (marksFrom k n))[j]? = some (.string (markS (k + j))) := by
  simp [strVals, marksFrom, h]
theorem set_take' {α : Type} (ys : List α) (k : Nat) (x : α) (h : k < ys.length) : (ys.set k x).take (k + 1) = ys.take k ++ [x] := by
  rw [List.take_succ_eq_append_getElem (by simpa using h)]
  simp [List.take_set_of_le]

def MarkedEnd (base k n : Nat) (a : Option Addr) (cap : Nat) (w : World) (e : Ending) (w' : World) : Prop :=
  e = .returned (.int .i64 ((k + n : Nat) : Int)) ∧ w'.ownsRow base 9 1 (.slice a n cap) n (strVals (marksFrom k n)) ∧ Below base w w'

set_option maxRecDepth 100000 in
set_option maxHeartbeats 400000 in
theorem markStrs (base k n : Nat) (a : Option Addr) (cap : Nat) (xs : List Value) (w : World) (hn : n ≤ 549755813888) (hk : k ≤ 549755813888) (hB : base ≤ w.heap.size) (hown : w.ownsRow base 9 1 (.slice a n cap) n xs) :
    Calls Tryd.prog 11 #[.slice a n cap, .int .i64 k] w (MarkedEnd base k n a cap w) := by
  go_enter Tryd.func11, Tryd.ntmps11
  go_wp2
  go_loopw [1, 5] (fun m i wr => ∃ (j : Nat) (ys : List Value), j ≤ n ∧ i = .int .i64 j ∧ m = .int .i64 ((k + j : Nat) : Int) ∧ ys.take j = strVals (marksFrom k j) ∧ ys.length = n ∧ wr.ownsRow base 9 1 (.slice a n cap) n ys ∧ Below base w wr)
    (fun _ i _ => n - (intOf i).toNat)
  case atStart => exact ⟨0, xs, Nat.zero_le _, rfl, rfl, by simp [strVals, marksFrom], by simpa using hown.1, hown, Below.refl _ _⟩
  case round =>
    obtain ⟨j, ys, hj, rfl, rfl, hys, hyl, ho, hb⟩ := hrel
    by_cases hlt : j < n
    · obtain ⟨g, rfl⟩ : ∃ g, a = some ⟨g, 0, none⟩ := by
        rcases ho.2 with ⟨_, h0⟩ | ⟨g, _, _, hv, _⟩
        · omega
        · injection hv with hv _ _
          exact ⟨g, hv⟩
      have hklt : j < ys.length := by omega
      have Hys := Lib.hid hys
      have Hyl := Lib.hid hyl
      have Ho := Lib.hid ho
      clear hys hyl ho
      go_wp2_with fail
      refine (markText (k + j) (by omega) _).mono ?_
      rintro e w1 ⟨rfl, hb1⟩
      have ho1 := own_keeps Ho.out hb1
      obtain ⟨old, hold⟩ : ∃ old, w1.cell? ⟨g, j, none⟩ = some old := ⟨_, (ho1.cellAt j (by omega)).trans (List.getElem?_eq_getElem hklt)⟩
      have hfr := ho1.frozenAt j
      have hst := ho1.stored j (.string (markS (k + j)))
      have hgb : base ≤ g := by
        have := (ho1.lt g rfl).1
        exact this
      have hb2 : Below base w w1 := hb.trans (hb1.mono (Nat.le_trans hB hb.size))
      clear ho1
      go_wp2
      go_roundw
      case rel => exact ⟨j + 1, ys.set j (.string (markS (k + j))), by omega, by go_num, by go_num, by rw [set_take' ys j _ hklt, Hys.out, marks_next]; exact (strVals_snoc _ _).symm, by rw [List.length_set]; exact Hyl.out, hst.1, hb2.setCell hgb _⟩
      case measure => simp [intOf]; omega
    · have hjn : j = n := by omega
      subst hjn
      have hfull : ys = strVals (marksFrom k j) := by
        rw [List.take_of_length_le (by omega)] at hys
        exact hys
      subst hfull
      have Hyl := Lib.hid hyl
      clear hys hyl
      go_wp2
      go_ret
      exact ⟨rfl, ho, hb⟩

theorem held_keeps {w cur w1 : World} {p : Addr} {x : Value} (hp : p.block < w.heap.size) (h : cur.cell? p = some x ∧ Below w.heap.size w cur) (hb : Below cur.heap.size cur w1) : w1.cell? p = some x ∧ Below w.heap.size w w1 :=
  ⟨(hb.cell (Nat.lt_of_lt_of_le hp h.2.size)).trans h.1, h.2.trans (hb.mono h.2.size)⟩

/-- All marks are there: the count behind the last. -/
def HeldEnd (k n : Nat) (w : World) (e : Ending) (w' : World) : Prop := e = .returned (.int .i64 ((k + n : Nat) : Int)) ∧ Below w.heap.size w w'

end Go.Proofs.YtplchhahjmoodaaDoor
/-
  All marks are still in the nodes of a formula: the whole of it.
-/
namespace Go.Proofs.YtplchhahjmoodaaDoor
open Go Go.RowKit Go.ChangeAt Go.ChangeShapes Go.WideShapes

theorem heldTree : ∀ x : Ft, ∀ (k : Nat) (w : World), Fm.sizes (x.args.map Ft.er) ≤ 1099511627776 → k ≤ 1099511627776 * 8 - 4 * Fm.sizes (x.args.map Ft.er) → (x.markRest k).In w w.heap.size → Calls Tryd.prog 26 #[.slice x.a x.args.length x.cap, .int .i64 k] w (HeldTrees (Fm.sizes (x.args.map Ft.er)) k w) := by
  apply Ft.ind
  intro x ih k w hs hk hin
  rw [Ft.in_iff] at hin
  exact heldRow x.a x.cap x.args k w hs hk hin.1 hin.2 ih
set_option maxHeartbeats 400000 in
theorem heldFormula (x : Ft) (k : Nat) (w : World) (hs : Fm.sizes (x.args.map Ft.er) ≤ 1099511627776) (hk : k ≤ 1099511627776 * 8 - 4 * Fm.sizes (x.args.map Ft.er)) (hin : (x.markRest k).In w w.heap.size) :
    Calls Tryd.prog 13 #[x.val, .int .i64 k] w (HeldTrees (Fm.sizes (x.args.map Ft.er)) k w) := by
  have hb0 := (Below.refl w.heap.size w).alloc (Nat.le_refl _) (.cells #[.int .i64 x.kd, .int .i64 x.k, .int .i64 x.u, .int .i64 x.v, .slice x.a x.args.length x.cap] 26)
  have HHT := Lib.hid (heldTree x k _ hs hk (hin.to hb0))
  have HB := Lib.hid hb0
  obtain ⟨S, hS⟩ : ∃ S, Fm.sizes (x.args.map Ft.er) = S := ⟨_, rfl⟩
  rw [hS] at HHT ⊢
  clear hin hb0 hs hk hS
  go_enter Tryd.func13, Tryd.ntmps13
  go_wp2_with fail
  refine HHT.out.mono ?_
  rintro e w1 ⟨rfl, hb1⟩
  have hneg : ¬ (((k + 4 * S : Nat) : Int) < 0) := by omega
  have hbb := HB.out.trans (hb1.mono HB.out.size)
  obtain ⟨Q, hQ⟩ : ∃ Q, ((k + 4 * S : Nat) : Int) = Q := ⟨_, rfl⟩
  rw [hQ] at hneg ⊢
  have HQ := Lib.hid hQ
  clear hQ
  go_wp2_with fail
  go_ret
  exact ⟨by rw [HQ.out]; rfl, hbb⟩
/-- The marks of a []string turn its one block. -/
def MarkedT (base k n : Nat) (w : World) (e : Ending) (w' : World) : Prop :=
  e = .returned (.int .i64 ((k + n : Nat) : Int)) ∧ Turn base (base + 1) w w'
theorem Turn.cell1 {w W : World} {b : Nat} (t : Turn b (b + 1) w W) (i : Nat) (u : Value) : Turn b (b + 1) w (W.setCell ⟨b, i, none⟩ u) :=
  t.trans ⟨rfl, rfl, rfl, by simp, fun k _ hk => Below.heap_setCell _ _ _ _ (by show k ≠ b; omega)⟩
set_option maxRecDepth 100000 in
set_option maxHeartbeats 400000 in
theorem markStrsT (base k n : Nat) (cap : Nat) (xs : List Value) (w : World) (hn : n ≤ 549755813888) (hk : k ≤ 549755813888) (hown : w.ownsRow base 9 1 (.slice (some ⟨base, 0, none⟩) n cap) n xs) :
    Calls Tryd.prog 11 #[.slice (some ⟨base, 0, none⟩) n cap, .int .i64 k] w (MarkedT base k n w) := by
  go_enter Tryd.func11, Tryd.ntmps11
  go_wp2
  go_loopw [1, 5] (fun m i wr => ∃ (j : Nat) (ys : List Value), j ≤ n ∧ i = .int .i64 j ∧ m = .int .i64 ((k + j : Nat) : Int) ∧ ys.length = n ∧ wr.ownsRow base 9 1 (.slice (some ⟨base, 0, none⟩) n cap) n ys ∧ Turn base (base + 1) w wr)
    (fun _ i _ => n - (intOf i).toNat)
  case atStart => exact ⟨0, xs, Nat.zero_le _, rfl, rfl, by simpa using hown.1, hown, Turn.refl _ _ _⟩
  case round =>
    obtain ⟨j, ys, hj, rfl, rfl, hyl, ho, hb⟩ := hrel
    by_cases hlt : j < n
    · have hklt : j < ys.length := by omega
      have Hyl := Lib.hid hyl
      have Ho := Lib.hid ho
      clear hyl ho
      go_wp2_with fail
      refine (markText (k + j) (by omega) _).mono ?_
      rintro e w1 ⟨rfl, hb1⟩
      have ho1 := own_keeps Ho.out hb1
      obtain ⟨old, hold⟩ : ∃ old, w1.cell? ⟨base, j, none⟩ = some old := ⟨_, (ho1.cellAt j (by omega)).trans (List.getElem?_eq_getElem hklt)⟩
      have hfr := ho1.frozenAt j
      have hst := ho1.stored j (.string (markS (k + j)))
      have hb2 : Turn base (base + 1) w w1 := hb.trans (Turn.of_below hb1)
      clear ho1
      go_wp2
      go_roundw
      case rel => exact ⟨j + 1, ys.set j (.string (markS (k + j))), by omega, by go_num, by go_num, by rw [List.length_set]; exact Hyl.out, hst.1, hb2.cell1 j _⟩
      case measure => simp [intOf]; omega
    · have hjn : j = n := by omega
      subst hjn
      clear hyl ho
      go_wp2
      go_ret
      exact ⟨rfl, hb⟩
end Go.Proofs.YtplchhahjmoodaaDoor
