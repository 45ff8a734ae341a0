/-
  Several texts of one proof in one file, in the order in which they build.
-/
import Derived.Lib.ItoaNum
import Derived.Laws.BytesString
import Derived.Laws.IdiomStrings
import Derived.Test.YtpmmjaceehlpiaaGreatDoorChecked
import Derived.Deep.RegionHeld3
import Derived.Test.YtpmmjaceehlpiaaGreatDoorF01
import Derived.Test.YtpmmjaceehlpiaaGreatDoorF17
import Derived.Test.YtpmmjaceehlpiaaGreatDoorF04
/-
  Decimal digits as the model's loop makes them; a byte of the call's own turned into a string. Nothing here knows of the program.
-/
namespace Go.Proofs.YtpmmjaceehlpiaaGreatDoor
open Go Go.ChangeShapes Go.WideShapes Go.ChangeAt Go.RowKit

/-- The digits that are still to come: none of 0. -/
def digs (u : Nat) : List UInt8 := if u = 0 then [] else Lib.decDigits u
theorem digs_zero : digs 0 = [] := rfl
theorem digs_pos {u : Nat} (h : 0 < u) : digs u = Lib.decDigits u := by unfold digs; rw [if_neg (by omega)]
theorem digs_next {u : Nat} (h : 0 < u) : digs u = digs (u / 10) ++ [UInt8.ofNat (48 + u % 10)] := by
  by_cases h10 : u < 10
  · rw [digs_pos h, Lib.decDigits_one h10, show u / 10 = 0 by omega, digs_zero, show u % 10 = u by omega]
    rfl
  · rw [digs_pos h, digs_pos (show 0 < u / 10 by omega), Lib.decDigits, dif_neg h10]

theorem digs_length : ∀ (k u : Nat), u ≤ k → (digs u).length ≤ u
  | 0, u, h => by
    obtain rfl : u = 0 := by omega
    simp [digs_zero]
  | k + 1, u, h => by
    by_cases h0 : 0 < u
    · have ih := digs_length k (u / 10) (by omega)
      rw [digs_next h0, List.length_append, List.length_singleton]
      omega
    · obtain rfl : u = 0 := by omega
      simp [digs_zero]
/-- While digits are still to come, one more fits. -/
theorem digs_room {u N : Nat} {l : List UInt8} (h0 : 0 < u) (h : digs u ++ l = digs N) : 1 + l.length ≤ N / 10 + 1 := by
  have h1 := congrArg List.length h
  rw [digs_next h0, List.length_append, List.length_append, List.length_singleton] at h1
  by_cases hN : 0 < N
  · rw [digs_next hN, List.length_append, List.length_singleton] at h1
    have h2 := digs_length (N / 10) (N / 10) (Nat.le_refl _)
    omega
  · obtain rfl : N = 0 := by omega
    simp [digs_zero] at h1
theorem bytes_cons (x : UInt8) (l : List UInt8) : (⟨#[x]⟩ : ByteArray) ++ ⟨l.toArray⟩ = ⟨(x :: l).toArray⟩ := by
  apply ByteArray.ext
  simp

theorem byte_split (k : Nat) : UInt8.ofNat (48 + k) = 48 + UInt8.ofNat k := by
  simp

theorem tmod_neg (u : Nat) : (-(u : Int)).tmod 10 = -((u % 10 : Nat) : Int) := by
  rw [Int.neg_tmod, Int.tmod_eq_emod_of_nonneg (by omega)]
  omega
theorem tdiv_neg (u : Nat) : (-(u : Int)).tdiv 10 = -((u / 10 : Nat) : Int) := by
  rw [Int.neg_tdiv, Int.tdiv_eq_ediv_of_nonneg (by omega)]
  omega

/-- string of one byte that was just made. -/
theorem conv_byte {P : Program} {src dst e : TypeId} (hs : P.underlying src = some (.slice e)) (he : P.underlying e = some (.int .u8)) (hd : P.underlying dst = some .string) (W : World) (x : Nat) (hx : x < 256) :
    (convert src dst (.slice (some ⟨W.heap.size, 0, none⟩) 1 1)).run P (W.alloc (.cells #[.int .u8 (x : Int)] e)) = .ok (.string ⟨#[UInt8.ofNat x]⟩) (W.alloc (.cells #[.int .u8 (x : Int)] e)) := by
  have h := run_convert_bytes_back (P := P) (W.alloc (.cells #[.int .u8 (x : Int)] e)) src dst e ⟨W.heap.size, 0, none⟩ 1 [UInt8.ofNat x] hs he hd (fun j hj => by
    have : j = 0 := by simpa using hj
    subst this
    have hn : (UInt8.ofNat x).toNat = x := by simp; omega
    rw [add_plain]
    simp only [List.getElem_cons_zero, hn, Nat.zero_add]
    exact World.cell?_alloc_at _ _ _ _ rfl)
  exact h
end Go.Proofs.YtpmmjaceehlpiaaGreatDoor
/-
  The law's comparison of two []string: true where both hold the same strings.
-/
namespace Go.Proofs.YtpmmjaceehlpiaaGreatDoor
open Go Go.RowKit

/-- It answers true, and the world is as it was, but for draws. -/
def SameEnd (r : Bool) (w : World) (e : Ending) (w' : World) : Prop := ∃ n, e = .returned (.bool r) ∧ w' = w.drewN n

set_option maxHeartbeats 400000 in
theorem eqStrs (a b : Option Addr) (ca cb : Nat) (ss : List ByteArray) (w : World) (hn : ss.length ≤ maxLen) (ha : Row w w.heap.size a (strVals ss)) (hb : Row w w.heap.size b (strVals ss)) :
    Calls Tryz.prog 78 #[.slice a ss.length ca, .slice b ss.length cb] w (SameEnd true w) := by
  unfold maxLen at hn
  go_enter Tryz.func78, Tryz.ntmps78
  go_wp2
  go_loopw [5] (fun i wr => ∃ (k n : Nat), k ≤ ss.length ∧ i = .int .i64 k ∧ wr = w.drewN n) (fun i _ => ss.length - (intOf i).toNat)
  case atStart => exact ⟨0, 0, Nat.zero_le _, rfl, rfl⟩
  case round =>
    obtain ⟨k, n, hk, rfl, rfl⟩ := hrel
    by_cases hlt : k < ss.length
    · obtain ⟨ba, oa, rfl, _, hca⟩ := ha k (.string ss[k]) (by simp [strVals, hlt])
      obtain ⟨bb, ob, rfl, _, hcb⟩ := hb k (.string ss[k]) (by simp [strVals, hlt])
      go_wp2
      go_quiet (fail)
      go_wp2
      go_roundw
      case rel => exact ⟨k + 1, _, by omega, by go_num, rfl⟩
      case measure => simp [intOf]; omega
    · go_wp2
      go_ret
      exact ⟨_, rfl, rfl⟩
end Go.Proofs.YtpmmjaceehlpiaaGreatDoor
/-
  The law's size guard over a []string: what it lets through is small.
-/
namespace Go.Proofs.YtpmmjaceehlpiaaGreatDoor
open Go Go.RowKit

/-- The guard's answer: an int; where it is not negative, the strings and their number fit into the allowance. -/
def SzEnd (ss : List ByteArray) (left : Nat) (w : World) (e : Ending) (w' : World) : Prop :=
  ∃ r : Int, e = .returned (.int .i64 r) ∧ w = w' ∧ r ≤ left ∧ (0 ≤ r → (ss.length : Int) + total ss + r = left)

set_option maxHeartbeats 400000 in
theorem szStrs (a : Option Addr) (cap : Nat) (ss : List ByteArray) (left : Nat) (w : World) (hl : left ≤ 1099511627776) (hlen : ss.length ≤ maxLen) (hws : ∀ s ∈ ss, s.size ≤ maxLen) (hrow : Row w w.heap.size a (strVals ss)) :
    Calls Tryz.prog 73 #[.slice a ss.length cap, .int .i64 left] w (SzEnd ss left w) := by
  unfold maxLen at hlen
  by_cases h0 : left < ss.length
  · have hb : (left : Int) - ss.length < 0 := by omega
    go_enter Tryz.func73, Tryz.ntmps73
    go_wp2
    go_ret
    exact ⟨-1, rfl, rfl, by omega, fun h => by omega⟩
  · have hb : ¬ (left : Int) - ss.length < 0 := by omega
    go_enter Tryz.func73, Tryz.ntmps73
    go_wp2
    go_loop [1, 5] (fun l i => ∃ k m : Nat, k ≤ ss.length ∧ i = .int .i64 k ∧ l = .int .i64 m ∧ ss.length + total (ss.take k) + m = left) (fun _ i => ss.length - (intOf i).toNat)
    case atStart => exact ⟨0, left - ss.length, Nat.zero_le _, rfl, by congr 1; omega, by simp [total]; omega⟩
    case round =>
      obtain ⟨k, m, hk, rfl, rfl, hsum⟩ := hrel
      by_cases hlt : k < ss.length
      · obtain ⟨b, o, rfl, hbW, hc⟩ := hrow k (.string ss[k]) (by simp [strVals, hlt])
        have hsz : ss[k].size ≤ 9223372036854775807 := by have := hws ss[k] (List.getElem_mem hlt); unfold maxLen at this; omega
        have hnx := total_take_next ss k hlt
        have Hsum := Lib.hid hsum
        have Hnx := Lib.hid hnx
        have hm : m ≤ 1099511627776 := by omega
        clear hsum hnx
        by_cases hneg : (m : Int) - ss[k].size < 0
        · go_wp2
          go_ret
          exact ⟨-1, rfl, rfl, by omega, fun h => by omega⟩
        · go_wp2
          go_round
          case rel =>
            have h1 := Hsum.out
            have h2 := Hnx.out
            exact ⟨k + 1, m - ss[k].size, by omega, by go_num, by congr 1; omega, by omega⟩
          case measure => simp [intOf]; omega
      · have hk' : k = ss.length := by omega
        have Hk := Lib.hid hk'
        have Hsum := Lib.hid hsum
        clear hk' hsum
        go_wp2
        go_ret
        have h1 := Hsum.out
        rw [Hk.out, List.take_length] at h1
        exact ⟨m, rfl, rfl, by omega, fun _ => by omega⟩
end Go.Proofs.YtpmmjaceehlpiaaGreatDoor
/-
  The law's own copy of a []string: a new row with the same strings.
-/
namespace Go.Proofs.YtpmmjaceehlpiaaGreatDoor
open Go Go.RowKit

theorem strInfo : (Tryz.prog.info? 9).map (fun i => (i.zero, i.size, i.bytes)) = some (some (.string ⟨#[]⟩), 1, 16) := by kernel_rfl

/-- A new slice at the heap's end that holds the strings; nothing old has turned. -/
def CopyEnd (ss : List ByteArray) (w : World) (e : Ending) (w' : World) : Prop :=
  e = .returned (.slice (some ⟨w.heap.size, 0, none⟩) ss.length ss.length) ∧ w'.ownsRow w.heap.size 9 1 (.slice (some ⟨w.heap.size, 0, none⟩) ss.length ss.length) ss.length (strVals ss) ∧ Below w.heap.size w w'

theorem set_take {α : Type} (ys : List α) (k : Nat) (x : α) (h : k < ys.length) : (ys.set k x).take (k + 1) = ys.take k ++ [x] := by
  rw [List.take_succ_eq_append_getElem (by simpa using h)]
  simp [List.take_set_of_le]

set_option maxHeartbeats 400000 in
theorem toStrs (a : Option Addr) (cap : Nat) (ss : List ByteArray) (w : World) (hn : ss.length ≤ 1099511627776) (hrow : Row w w.heap.size a (strVals ss)) :
    Calls Tryz.prog 76 #[.slice a ss.length cap] w (CopyEnd ss w) := by
  obtain ⟨i0, hi, hz0, hz1, hz2⟩ := info_parts strInfo
  go_enter Tryz.func76, Tryz.ntmps76
  go_wp2_with (at_make; refine wpList_make_full _ rfl _ _ 24 rfl w.heap.size 9 i0 (.string ⟨#[]⟩) 1 Tryz.underlying24 hi hz0 hz1 _ _ _ _ ss.length rfl rfl rfl rfl ?b2 ?b3 (Nat.le_refl _) ?_)
  case b2 => rw [hz2]; omega
  case b3 => unfold maxLen; omega
  intro w0 hown0 hgrow0
  go_wp2
  go_loopw [4] (fun i wr => ∃ (k : Nat) (ys : List Value), k ≤ ss.length ∧ i = .int .i64 k ∧ ys.take k = strVals (ss.take k) ∧ ys.length = ss.length ∧
      wr.ownsRow w.heap.size 9 1 (.slice (some ⟨w.heap.size, 0, none⟩) ss.length ss.length) ss.length ys ∧ Below w.heap.size w wr)
    (fun i _ => ss.length - (intOf i).toNat)
  case atStart => exact ⟨0, _, Nat.zero_le _, rfl, by simp [strVals], by simpa using hown0.1, hown0, (Below.refl _ _).grown hgrow0 (Nat.le_refl _) (fun k h => by cases h)⟩
  case round =>
    obtain ⟨k, ys, hk, rfl, hys, hyl, hown, hb⟩ := hrel
    by_cases hlt : k < ss.length
    · obtain ⟨b, o, rfl, hbW, hc⟩ := hrow k (.string ss[k]) (by simp [strVals, hlt])
      have hc1 : wr.cell? ⟨b, o + k, none⟩ = some (.string ss[k]) := (hb.cell (p := ⟨b, o + k, none⟩) hbW).trans hc
      obtain ⟨old, hold⟩ : ∃ old, wr.cell? ⟨w.heap.size, k, none⟩ = some old := ⟨_, (hown.cellAt k (by omega)).trans (List.getElem?_eq_getElem (by omega))⟩
      have hfr := hown.frozenAt k
      have hst := hown.stored k (.string ss[k])
      have Hys := Lib.hid hys
      have Hyl := Lib.hid hyl
      have hklt : k < ys.length := by omega
      clear hys hyl hown hc
      go_wp2
      go_roundw
      case rel => exact ⟨k + 1, ys.set k (.string ss[k]), by omega, by go_num, by rw [set_take ys k _ hklt, Hys.out, take_next ss k hlt]; exact (strVals_snoc _ _).symm, by rw [List.length_set]; exact Hyl.out, hst.1, hb.setCell (by exact Nat.le_refl _) _⟩
      case measure => simp [intOf]; omega
    · have hk' : k = ss.length := by omega
      have Hk := Lib.hid hk'
      have Hys := Lib.hid hys
      have Hyl := Lib.hid hyl
      clear hk' hys hyl
      go_wp2
      go_ret
      have hfull : ys = strVals ss := by
        have h1 := Hys.out
        rw [Hk.out, List.take_length, List.take_of_length_le (by rw [Hyl.out]; exact Nat.le_refl _)] at h1
        exact h1
      rw [hfull] at hown
      exact ⟨rfl, hown, hb⟩
end Go.Proofs.YtpmmjaceehlpiaaGreatDoor
/-
  The law's comparison of two edges, two rows of edges, two programs: true where both hold the same.
-/
namespace Go.Proofs.YtpmmjaceehlpiaaGreatDoor
open Go Go.RowKit

set_option maxHeartbeats 400000 in
theorem eqEdgeSame (x : Ed) (w : World) : Calls Tryz.prog 118 #[edV x.f x.t x.k x.a x.b, edV x.f x.t x.k x.a x.b] w (GaveB (.bool true) w) := by
  obtain ⟨f, t, k, a, b⟩ := x
  go_enter Tryz.func118, Tryz.ntmps118
  go_wp2_with fail
  refine (eqStmtSame k a b _).mono ?_
  rintro e w1 ⟨rfl, hb1⟩
  have hB : Below w.heap.size w w1 := by
    refine Below.trans ?_ (hb1.mono (by simp <;> omega))
    repeat (first | with_reducible exact Below.refl _ _ | with_reducible refine Below.alloc ?_ (by simp <;> omega) _ | with_reducible refine Below.setCell ?_ (by simp <;> omega) _)
  go_wp2
  go_ret
  exact ⟨rfl, hB⟩

set_option maxHeartbeats 400000 in
theorem eqEdges (a b : Option Addr) (ca cb : Nat) (es : List Ed) (w : World) (hn : es.length ≤ maxLen) (ha : Row w w.heap.size a (edVals es)) (hb : Row w w.heap.size b (edVals es)) :
    Calls Tryz.prog 79 #[.slice a es.length ca, .slice b es.length cb] w (GaveB (.bool true) w) := by
  unfold maxLen at hn
  go_enter Tryz.func79, Tryz.ntmps79
  go_wp2
  go_loopw [5] (fun i wr => ∃ k : Nat, k ≤ es.length ∧ i = .int .i64 k ∧ Below w.heap.size w wr) (fun i _ => es.length - (intOf i).toNat)
  case atStart => exact ⟨0, Nat.zero_le _, rfl, Below.refl _ _⟩
  case round =>
    obtain ⟨k, hk, rfl, hbw⟩ := hrel
    by_cases hlt : k < es.length
    · obtain ⟨ba, oa, rfl, hba, hEa⟩ := ha.edge k hlt
      obtain ⟨bb, ob, rfl, hbb, hEb⟩ := hb.edge k hlt
      obtain ⟨c0, c1, c2, c3, c4⟩ := hEa.below hbw hba
      obtain ⟨d0, d1, d2, d3, d4⟩ := hEb.below hbw hbb
      generalize es[k] = x at *
      have hS : ∀ w', Below w.heap.size w w' → (w'.cell? ⟨ba, oa + k * 5, none⟩ = some (.int .i64 x.f) ∧ w'.cell? ⟨ba, oa + k * 5 + 1, none⟩ = some (.int .i64 x.t) ∧ w'.cell? ⟨ba, oa + k * 5 + 2, none⟩ = some (.int .i64 x.k) ∧ w'.cell? ⟨ba, oa + k * 5 + 3, none⟩ = some (.string x.a) ∧ w'.cell? ⟨ba, oa + k * 5 + 4, none⟩ = some (.string x.b)) ∧
          (w'.cell? ⟨bb, ob + k * 5, none⟩ = some (.int .i64 x.f) ∧ w'.cell? ⟨bb, ob + k * 5 + 1, none⟩ = some (.int .i64 x.t) ∧ w'.cell? ⟨bb, ob + k * 5 + 2, none⟩ = some (.int .i64 x.k) ∧ w'.cell? ⟨bb, ob + k * 5 + 3, none⟩ = some (.string x.a) ∧ w'.cell? ⟨bb, ob + k * 5 + 4, none⟩ = some (.string x.b)) ∧ Below w.heap.size w w' :=
        fun w' h => ⟨⟨(hEa.below h hba).f, (hEa.below h hba).t, (hEa.below h hba).k, (hEa.below h hba).a, (hEa.below h hba).b⟩, ⟨(hEb.below h hbb).f, (hEb.below h hbb).t, (hEb.below h hbb).k, (hEb.below h hbb).a, (hEb.below h hbb).b⟩, h⟩
      clear hEa hEb c0 c1 c2 c3 c4 d0 d1 d2 d3 d4
      go_wp2_with fail
      go_region_held3 (fun w' => (w'.cell? ⟨ba, oa + k * 5, none⟩ = some (.int .i64 x.f) ∧ w'.cell? ⟨ba, oa + k * 5 + 1, none⟩ = some (.int .i64 x.t) ∧ w'.cell? ⟨ba, oa + k * 5 + 2, none⟩ = some (.int .i64 x.k) ∧ w'.cell? ⟨ba, oa + k * 5 + 3, none⟩ = some (.string x.a) ∧ w'.cell? ⟨ba, oa + k * 5 + 4, none⟩ = some (.string x.b)) ∧
          (w'.cell? ⟨bb, ob + k * 5, none⟩ = some (.int .i64 x.f) ∧ w'.cell? ⟨bb, ob + k * 5 + 1, none⟩ = some (.int .i64 x.t) ∧ w'.cell? ⟨bb, ob + k * 5 + 2, none⟩ = some (.int .i64 x.k) ∧ w'.cell? ⟨bb, ob + k * 5 + 3, none⟩ = some (.string x.a) ∧ w'.cell? ⟨bb, ob + k * 5 + 4, none⟩ = some (.string x.b)) ∧ Below w.heap.size w w')
        (first | assumption | exact hS _ (Below.drew hbw) | exact hS _ hB)
        (first | (go_at_call 118; refine (eqEdgeSame x _).mono ?_; rintro e w1 ⟨rfl, hb1⟩; have hB := (Below.drew hbw).trans (hb1.mono (Below.drew hbw).size)))
      clear hS
      go_wp2
      go_roundw
      case rel => exact ⟨k + 1, by omega, by go_num, hB⟩
      case measure => simp [intOf]; omega
    · go_wp2
      go_ret
      exact ⟨rfl, hbw⟩

set_option maxHeartbeats 800000 in
theorem eqProgramSame (a b c d : Option Addr) (ca cb cc cd : Nat) (ss : List ByteArray) (p : Int) (es : List Ed) (w : World) (hn : ss.length ≤ maxLen) (hm : es.length ≤ maxLen) (ha : Row w w.heap.size a (strVals ss)) (hb : Row w w.heap.size b (edVals es)) (hc : Row w w.heap.size c (strVals ss)) (hd : Row w w.heap.size d (edVals es)) :
    Calls Tryz.prog 28 #[.agg #[.slice a ss.length ca, .int .i64 p, .slice b es.length cb], .agg #[.slice c ss.length cc, .int .i64 p, .slice d es.length cd]] w (GaveB (.bool true) w) := by
  have key : ∀ W, Below w.heap.size w W → (Row W W.heap.size a (strVals ss) ∧ Row W W.heap.size c (strVals ss)) ∧ (Row W W.heap.size b (edVals es) ∧ Row W W.heap.size d (edVals es)) := fun W h => ⟨⟨(ha.below h).grow h.size, (hc.below h).grow h.size⟩, ⟨(hb.below h).grow h.size, (hd.below h).grow h.size⟩⟩
  go_enter Tryz.func28, Tryz.ntmps28
  go_wp2_with fail
  refine (eqStrs a c ca cc ss _ hn (key _ ?_).1.1 (key _ ?_).1.2).mono ?_
  · repeat (first | with_reducible exact Below.refl _ _ | with_reducible refine Below.alloc ?_ (by simp <;> omega) _ | with_reducible refine Below.setCell ?_ (by simp <;> omega) _)
  · repeat (first | with_reducible exact Below.refl _ _ | with_reducible refine Below.alloc ?_ (by simp <;> omega) _ | with_reducible refine Below.setCell ?_ (by simp <;> omega) _)
  rintro e w1 ⟨d1, rfl, rfl⟩
  go_wp2_with fail
  have hB0 : ∀ u v t, Below w.heap.size w ((((w.alloc (.cells u t)).alloc (.cells v t))).drewN d1) := fun u v t => below_draws (((Below.refl _ _).alloc (Nat.le_refl _) _).alloc (by simp) _) _
  refine (eqEdges b d cb cd es _ hm (key _ (hB0 _ _ _)).2.1 (key _ (hB0 _ _ _)).2.2).mono ?_
  rintro e w2 ⟨rfl, hb2⟩
  have hB2 := (hB0 _ _ _).trans (hb2.mono (hB0 _ _ _).size)
  go_wp2
  go_ret
  exact ⟨rfl, hB2⟩
end Go.Proofs.YtpmmjaceehlpiaaGreatDoor
/-
  The law's marks: the text of mark k is the letter m and k's decimal digits.
-/
namespace Go.Proofs.YtpmmjaceehlpiaaGreatDoor
open Go Go.RowKit

def markS (k : Nat) : ByteArray := ⟨(109 :: Lib.decDigits k).toArray⟩
def MarkEnd (k : Nat) (w : World) (e : Ending) (w' : World) : Prop := e = .returned (.string (markS k)) ∧ Below w.heap.size w w'
theorem mark_next (k : Nat) (l : List UInt8) : Value.string ((⟨#[48 + UInt8.ofNat k]⟩ : ByteArray) ++ ⟨l.toArray⟩) = Value.string ⟨(UInt8.ofNat (48 + k) :: l).toArray⟩ := by
  rw [byte_split]
  exact congrArg Value.string (bytes_cons _ l)

set_option maxRecDepth 100000 in
set_option maxHeartbeats 400000 in
theorem markText_pos (N : Nat) (h0 : 0 < N) (h1 : N ≤ 1099511627776) (w : World) : Calls Tryz.prog 119 #[.int .i64 N] w (MarkEnd N w) := by
  go_enter Tryz.func119, Tryz.ntmps119
  go_wp2
  go_loopw [0, 3] (fun n out wr => ∃ (u : Nat) (l : List UInt8), u ≤ N ∧ n = .int .i64 u ∧ out = .string ⟨l.toArray⟩ ∧ digs u ++ l = digs N ∧ Below w.heap.size w wr) (fun n _ _ => (intOf n).toNat)
  case atStart => exact ⟨N, [], Nat.le_refl _, rfl, rfl, by simp, Below.refl _ _⟩
  case round =>
    obtain ⟨u, l, hu, rfl, rfl, hd, hb⟩ := hrel
    by_cases hlt : 0 < u
    · have hnx := digs_next hlt
      have hroom := digs_room hlt hd
      have hl : 1 + l.length ≤ 9223372036854775807 := by omega
      have Hd := Lib.hid hd
      have Hnx := Lib.hid hnx
      clear hd hnx hroom
      have kc : ∀ W : World, (convert 22 9 (.slice (some ⟨W.heap.size, 0, none⟩) 1 1)).run Tryz.prog (W.alloc (.cells #[.int .u8 (48 + (u : Int) % 10)] 5)) = .ok (.string ⟨#[UInt8.ofNat (48 + u % 10)]⟩) (W.alloc (.cells #[.int .u8 (48 + (u : Int) % 10)] 5)) := fun W => by
        have h := conv_byte (P := Tryz.prog) Tryz.underlying22 Tryz.underlying5 Tryz.underlying9 W (48 + u % 10) (by omega)
        have e : ((48 + u % 10 : Nat) : Int) = 48 + (u : Int) % 10 := by omega
        rw [e] at h
        exact h
      go_wp2
      go_roundw
      case rel => exact ⟨u / 10, UInt8.ofNat (48 + u % 10) :: l, by omega, by go_num, mark_next _ _, by rw [← Hd.out, Hnx.out]; simp, hb.alloc hb.size _⟩
      case measure => simp [intOf]; omega
    · have hu0 : u = 0 := by omega
      subst hu0
      have Hd := Lib.hid hd
      clear hd
      have hlen : 1 + l.length ≤ 9223372036854775807 := by
        have h := congrArg List.length Hd.out
        rw [digs_zero, List.nil_append, digs_next h0, List.length_append, List.length_singleton] at h
        have h2 := digs_length (N / 10) (N / 10) (Nat.le_refl _)
        omega
      have hfin : l = Lib.decDigits N := by
        have h := Hd.out
        rw [digs_zero, List.nil_append, digs_pos h0] at h
        exact h
      have Hfin := Lib.hid hfin
      clear hfin
      go_wp2
      go_ret
      exact ⟨by rw [markS, ← Hfin.out, ← bytes_cons]; rfl, hb⟩
theorem markText (N : Nat) (h1 : N ≤ 1099511627776) (w : World) : Calls Tryz.prog 119 #[.int .i64 N] w (MarkEnd N w) := by
  by_cases h0 : 0 < N
  · exact markText_pos N h0 h1 w
  · obtain rfl : N = 0 := by omega
    go_enter Tryz.func119, Tryz.ntmps119
    go_wp2
    go_ret
    exact ⟨by rw [markS, Lib.decDigits_one (by omega)]; rfl, Below.refl _ _⟩
end Go.Proofs.YtpmmjaceehlpiaaGreatDoor
/-
  The law's size guard over an edge, a row of edges, a program: what it lets through is small.
-/
namespace Go.Proofs.YtpmmjaceehlpiaaGreatDoor
open Go Go.RowKit

def SzEdgeEnd (x : Ed) (left : Nat) (w : World) (e : Ending) (w' : World) : Prop :=
  ∃ r : Int, e = .returned (.int .i64 r) ∧ Below w.heap.size w w' ∧ r ≤ left ∧ (0 ≤ r → ((x.a.size + x.b.size : Nat) : Int) + r = left)
set_option maxHeartbeats 400000 in
theorem szEdge (x : Ed) (left : Nat) (w : World) (hl : left ≤ 1099511627776) (hx : x.Ok) : Calls Tryz.prog 116 #[edV x.f x.t x.k x.a x.b, .int .i64 left] w (SzEdgeEnd x left w) := by
  obtain ⟨f, t, k, a, b⟩ := x
  go_enter Tryz.func116, Tryz.ntmps116
  go_wp2_with fail
  refine (szStmt k a b left _ hl hx.a hx.b).mono ?_
  rintro e w1 ⟨r, rfl, hb1, hr, hok⟩
  have hB : Below w.heap.size w w1 := ((Below.refl _ _).alloc (Nat.le_refl _) _).trans (hb1.mono (by simp))
  by_cases hneg : r < 0
  · go_wp2
    go_ret
    exact ⟨-1, rfl, hB, by omega, fun h => by omega⟩
  · go_wp2
    go_ret
    exact ⟨r, rfl, hB, hr, fun h => by have := hok h; simp; omega⟩

/-- The guard's answer over a row of edges: an int; where it is not negative, their names and their number fit into the allowance. -/
def SzEdgesEnd (es : List Ed) (left : Nat) (w : World) (e : Ending) (w' : World) : Prop :=
  ∃ r : Int, e = .returned (.int .i64 r) ∧ Below w.heap.size w w' ∧ r ≤ left ∧ (0 ≤ r → (es.length : Int) + edTotal es + r = left)

set_option maxHeartbeats 800000 in
theorem szEdges (a : Option Addr) (cap : Nat) (es : List Ed) (left : Nat) (w : World) (hl : left ≤ 1099511627776) (hlen : es.length ≤ maxLen) (hws : ∀ x ∈ es, x.Ok) (hrow : Row w w.heap.size a (edVals es)) :
    Calls Tryz.prog 74 #[.slice a es.length cap, .int .i64 left] w (SzEdgesEnd es left w) := by
  unfold maxLen at hlen
  by_cases h0 : left < es.length
  · have hb : (left : Int) - es.length < 0 := by omega
    go_enter Tryz.func74, Tryz.ntmps74
    go_wp2
    go_ret
    exact ⟨-1, rfl, Below.refl _ _, by omega, fun h => by omega⟩
  · have hb : ¬ (left : Int) - es.length < 0 := by omega
    go_enter Tryz.func74, Tryz.ntmps74
    go_wp2
    go_loopw [1, 5] (fun l i wr => ∃ k m : Nat, k ≤ es.length ∧ i = .int .i64 k ∧ l = .int .i64 m ∧ es.length + edTotal (es.take k) + m = left ∧ Below w.heap.size w wr) (fun _ i _ => es.length - (intOf i).toNat)
    case atStart => exact ⟨0, left - es.length, Nat.zero_le _, rfl, by congr 1; omega, by simp [edTotal]; omega, Below.refl _ _⟩
    case round =>
      obtain ⟨k, m, hk, rfl, rfl, hsum, hb⟩ := hrel
      by_cases hlt : k < es.length
      · obtain ⟨b, o, rfl, hbW, hE0⟩ := hrow.edge k hlt
        obtain ⟨c0, c1, c2, c3, c4⟩ := hE0.below hb hbW
        have hok := hws es[k] (List.getElem_mem hlt)
        have hnx := edTotal_next es k hlt
        generalize es[k] = x at *
        have Hsum := Lib.hid hsum
        have Hnx := Lib.hid hnx
        have hm : m ≤ 1099511627776 := by omega
        clear hsum hnx hE0
        go_wp2_with fail
        refine (szEdge x m _ hm hok).mono ?_
        rintro e w1 ⟨r, rfl, hb1, hr, hsz⟩
        have hB := hb.trans (hb1.mono hb.size)
        have Hsz := Lib.hid hsz
        clear hsz c0 c1 c2 c3 c4
        by_cases hneg : r < 0
        · go_wp2
          go_ret
          exact ⟨-1, rfl, hB, by omega, fun h => by omega⟩
        · obtain ⟨r', rfl⟩ : ∃ r' : Nat, r = (r' : Int) := ⟨r.toNat, by omega⟩
          go_wp2
          go_roundw
          case rel =>
            have h1 := Hsum.out
            have h2 := Hnx.out
            have h3 := Hsz.out (by omega)
            exact ⟨k + 1, r', by omega, by go_num, rfl, by omega, hB⟩
          case measure => simp [intOf]; omega
      · have hk' : k = es.length := by omega
        have Hk := Lib.hid hk'
        have Hsum := Lib.hid hsum
        clear hk' hsum
        go_wp2
        go_ret
        have h1 := Hsum.out
        rw [Hk.out, List.take_length] at h1
        exact ⟨m, rfl, hb, by omega, fun _ => by omega⟩

abbrev prV (a : Option Addr) (n cap : Nat) (p : Int) (b : Option Addr) (m capb : Nat) : Value := .agg #[.slice a n cap, .int .i64 p, .slice b m capb]
def SzProgEnd (ss : List ByteArray) (es : List Ed) (left : Nat) (w : World) (e : Ending) (w' : World) : Prop :=
  ∃ r : Int, e = .returned (.int .i64 r) ∧ Below w.heap.size w w' ∧ r ≤ left ∧ (0 ≤ r → (ss.length + total ss + es.length + edTotal es : Int) + r = left)
set_option maxHeartbeats 800000 in
theorem szProgram (a : Option Addr) (cap : Nat) (ss : List ByteArray) (p : Int) (b : Option Addr) (capb : Nat) (es : List Ed) (left : Nat) (w : World) (hl : left ≤ 1099511627776) (hss : ss.length ≤ maxLen ∧ (∀ s ∈ ss, s.size ≤ maxLen) ∧ Row w w.heap.size a (strVals ss))
    (hes : es.length ≤ maxLen ∧ (∀ x ∈ es, x.Ok) ∧ Row w w.heap.size b (edVals es)) :
    Calls Tryz.prog 22 #[prV a ss.length cap p b es.length capb, .int .i64 left] w (SzProgEnd ss es left w) := by
  have hb0 : ∀ t, Below w.heap.size w (w.alloc (.cells #[.slice a ss.length cap, .int .i64 p, .slice b es.length capb] t)) := fun t => (Below.refl _ _).alloc (Nat.le_refl _) _
  go_enter Tryz.func22, Tryz.ntmps22
  go_wp2_with fail
  refine (szStrs a cap ss left _ hl hss.1 hss.2.1 ((hss.2.2.below (hb0 _)).grow (hb0 _).size)).mono ?_
  rintro e w1 ⟨r, rfl, rfl, hr, hok⟩
  by_cases hneg : r < 0
  · go_wp2
    go_ret
    exact ⟨-1, rfl, hb0 _, by omega, fun h => by omega⟩
  · obtain ⟨r', rfl⟩ : ∃ r' : Nat, r = (r' : Int) := ⟨r.toNat, by omega⟩
    have Hok := Lib.hid (hok (by omega))
    clear hok
    go_wp2_with fail
    refine (szEdges b capb es r' _ (by omega) hes.1 hes.2.1 ((hes.2.2.below (hb0 _)).grow (hb0 _).size)).mono ?_
    rintro e w1 ⟨r2, rfl, hb1, hr2, hok2⟩
    have hB := (hb0 _).trans (hb1.mono (hb0 _).size)
    have Hok2 := Lib.hid hok2
    clear hok2
    by_cases hneg2 : r2 < 0
    · go_wp2
      go_ret
      exact ⟨-1, rfl, hB, by omega, fun h => by omega⟩
    · go_wp2
      go_ret
      have h1 := Hok.out
      exact ⟨r2, rfl, hB, by omega, fun h => by have h2 := Hok2.out h; omega⟩
end Go.Proofs.YtpmmjaceehlpiaaGreatDoor
/-
  The law's own copy of an edge, of a row of edges, of a program: new rows with the same contents.
-/
namespace Go.Proofs.YtpmmjaceehlpiaaGreatDoor
open Go Go.RowKit

set_option maxHeartbeats 400000 in
theorem lawToEdge (x : Ed) (w : World) : Calls Tryz.prog 117 #[edV x.f x.t x.k x.a x.b] w (GaveB (edV x.f x.t x.k x.a x.b) w) := by
  obtain ⟨f, t, k, a, b⟩ := x
  go_enter Tryz.func117, Tryz.ntmps117
  go_wp2_with fail
  refine (lawToStmt k a b _).mono ?_
  rintro e w1 ⟨rfl, hb1⟩
  obtain ⟨hc, hf⟩ := bcell hb1
  have hz := hb1.size
  simp at hz
  go_wp2
  refine bodyPost_ret (v := edV f t k a b) (by simp [results, Tryz.results117, go_sem, hc]) rfl ⟨rfl, ?_⟩
  have hB : Below w.heap.size w w1 := by
    refine Below.trans ?_ (hb1.mono (by simp <;> omega))
    repeat (first | with_reducible exact Below.refl _ _ | with_reducible refine Below.alloc ?_ (by simp <;> omega) _ | with_reducible refine Below.setCell ?_ (by simp <;> omega) _)
  repeat (first | with_reducible exact hB | with_reducible refine Below.setCell ?_ (by simp <;> omega) _)

theorem edgeInfo : (Tryz.prog.info? 85).map (fun i => (i.zero, i.size, i.bytes)) = some (some (.agg #[.int .i64 0, .int .i64 0, .int .i64 0, .string ⟨#[]⟩, .string ⟨#[]⟩]), 5, 56) := by kernel_rfl

/-- A new slice at the heap's end that holds the edges; nothing old has turned. -/
def CopyEdges (es : List Ed) (w : World) (e : Ending) (w' : World) : Prop :=
  e = .returned (.slice (some ⟨w.heap.size, 0, none⟩) es.length es.length) ∧ w'.ownsRow w.heap.size 85 5 (.slice (some ⟨w.heap.size, 0, none⟩) es.length es.length) es.length (edVals es) ∧ Below w.heap.size w w'

/-- Five cells in a row turned at once. -/
def set5 (xs : List Value) (o : Nat) (x : Ed) : List Value := ((((xs.set o (.int .i64 x.f)).set (o + 1) (.int .i64 x.t)).set (o + 2) (.int .i64 x.k)).set (o + 3) (.string x.a)).set (o + 4) (.string x.b)
theorem set5_length (xs : List Value) (o : Nat) (x : Ed) : (set5 xs o x).length = xs.length := by simp [set5]
theorem set5_take (xs : List Value) (o : Nat) (x : Ed) (h : o + 5 ≤ xs.length) : (set5 xs o x).take (o + 5) = xs.take o ++ edCells x := by
  apply List.ext_getElem?
  intro j
  rcases Nat.lt_or_ge j o with hj | hj
  · rw [List.getElem?_append_left (by simp; omega), List.getElem?_take_of_lt (by omega), List.getElem?_take_of_lt hj]
    simp only [set5, List.getElem?_set]
    rw [if_neg (by omega), if_neg (by omega), if_neg (by omega), if_neg (by omega), if_neg (by omega)]
  · rw [List.getElem?_append_right (by simp; omega), List.length_take, Nat.min_eq_left (by omega)]
    rcases Nat.lt_or_ge j (o + 5) with hj5 | hj5
    · obtain ⟨i, rfl, hi⟩ : ∃ i, j = o + i ∧ i < 5 := ⟨j - o, by omega, by omega⟩
      rw [List.getElem?_take_of_lt hj5, Nat.add_sub_cancel_left]
      simp only [set5, List.getElem?_set, List.length_set]
      match i, hi with
      | 0, _ => simp [edCells]; omega
      | 1, _ => simp [edCells]; omega
      | 2, _ => simp [edCells]; omega
      | 3, _ => simp [edCells]; omega
      | 4, _ => simp [edCells]; omega
    · rw [List.getElem?_eq_none (by rw [List.length_take]; omega), List.getElem?_eq_none (by rw [edCells_length]; omega)]

set_option maxHeartbeats 800000 in
theorem toEdges (a : Option Addr) (cap : Nat) (es : List Ed) (w : World) (hn : es.length ≤ 1099511627776) (hrow : Row w w.heap.size a (edVals es)) :
    Calls Tryz.prog 77 #[.slice a es.length cap] w (CopyEdges es w) := by
  obtain ⟨i0, hi, hz0, hz1, hz2⟩ := info_parts edgeInfo
  go_enter Tryz.func77, Tryz.ntmps77
  go_wp2_with (at_make; refine wpList_make_full _ rfl _ _ 25 rfl w.heap.size 85 i0 _ 5 Tryz.underlying25 hi hz0 hz1 _ _ _ _ es.length rfl rfl rfl rfl ?b2 ?b3 (Nat.le_refl _) ?_)
  case b2 => rw [hz2]; omega
  case b3 => unfold maxLen; omega
  intro w0 hown0 hgrow0
  go_wp2
  go_loopw [4] (fun i wr => ∃ (k : Nat) (ys : List Value), k ≤ es.length ∧ i = .int .i64 k ∧ ys.take (k * 5) = edVals (es.take k) ∧ ys.length = es.length * 5 ∧
      wr.ownsRow w.heap.size 85 5 (.slice (some ⟨w.heap.size, 0, none⟩) es.length es.length) es.length ys ∧ Below w.heap.size w wr)
    (fun i _ => es.length - (intOf i).toNat)
  case atStart => exact ⟨0, _, Nat.zero_le _, rfl, by simp [edVals], by simpa using hown0.1, hown0, (Below.refl _ _).grown hgrow0 (Nat.le_refl _) (fun k h => by cases h)⟩
  case round =>
    obtain ⟨k, ys, hk, rfl, hys, hyl, hown, hb⟩ := hrel
    by_cases hlt : k < es.length
    · obtain ⟨b, o, rfl, hbW, hE0⟩ := hrow.edge k hlt
      obtain ⟨c0, c1, c2, c3, c4⟩ := hE0.below hb hbW
      have htk := take_next es k hlt
      generalize es[k] = x at *
      have Hys := Lib.hid hys
      have Hyl := Lib.hid hyl
      have Htk := Lib.hid htk
      have Hown := Lib.hid hown
      have hgs : w.heap.size < wr.heap.size := (hown.lt _ rfl).2
      clear hys hyl hown htk hE0
      go_wp2_with fail
      refine (lawToEdge x _).mono ?_
      rintro e w1 ⟨rfl, hb1⟩
      have ho1 := own_keeps Hown.out hb1
      have hB1 : Below w.heap.size w w1 := hb.trans (hb1.mono hb.size)
      have hl1 : ys.length = es.length * 5 := Hyl.out
      obtain ⟨old0, hold0⟩ : ∃ old, w1.cell? ⟨w.heap.size, k * 5, none⟩ = some old := ⟨_, (ho1.cellAt (k * 5) (by omega)).trans (List.getElem?_eq_getElem (by omega))⟩
      obtain ⟨old1, hold1⟩ : ∃ old, w1.cell? ⟨w.heap.size, k * 5 + 1, none⟩ = some old := ⟨_, (ho1.cellAt (k * 5 + 1) (by omega)).trans (List.getElem?_eq_getElem (by omega))⟩
      obtain ⟨old2, hold2⟩ : ∃ old, w1.cell? ⟨w.heap.size, k * 5 + 2, none⟩ = some old := ⟨_, (ho1.cellAt (k * 5 + 2) (by omega)).trans (List.getElem?_eq_getElem (by omega))⟩
      obtain ⟨old3, hold3⟩ : ∃ old, w1.cell? ⟨w.heap.size, k * 5 + 3, none⟩ = some old := ⟨_, (ho1.cellAt (k * 5 + 3) (by omega)).trans (List.getElem?_eq_getElem (by omega))⟩
      obtain ⟨old4, hold4⟩ : ∃ old, w1.cell? ⟨w.heap.size, k * 5 + 4, none⟩ = some old := ⟨_, (ho1.cellAt (k * 5 + 4) (by omega)).trans (List.getElem?_eq_getElem (by omega))⟩
      have hf0 := ho1.frozenAt (k * 5)
      have hf1 := ho1.frozenAt (k * 5 + 1)
      have hf2 := ho1.frozenAt (k * 5 + 2)
      have hf3 := ho1.frozenAt (k * 5 + 3)
      have hf4 := ho1.frozenAt (k * 5 + 4)
      have Ho := Lib.hid ho1
      clear ho1 hl1
      go_wp2
      go_roundw
      case rel =>
        have h0 := (Ho.out.stored (k * 5) (.int .i64 x.f)).1
        have h1 := (h0.stored (k * 5 + 1) (.int .i64 x.t)).1
        have h2 := (h1.stored (k * 5 + 2) (.int .i64 x.k)).1
        have h3 := (h2.stored (k * 5 + 3) (.string x.a)).1
        have h4 := (h3.stored (k * 5 + 4) (.string x.b)).1
        have hg : w.heap.size ≤ w.heap.size := Nat.le_refl _
        refine ⟨k + 1, set5 ys (k * 5) x, by omega, by go_num, ?_, ?_, h4, ((((hB1.setCell hg _).setCell hg _).setCell hg _).setCell hg _).setCell hg _⟩
        · rw [Nat.add_mul, Nat.one_mul, set5_take _ _ _ (by rw [Hyl.out]; omega), Hys.out, Htk.out, edVals_snoc]
        · rw [set5_length]
          exact Hyl.out
      case measure => simp [intOf]; omega
    · have hk' : k = es.length := by omega
      have Hk := Lib.hid hk'
      have Hys := Lib.hid hys
      have Hyl := Lib.hid hyl
      clear hk' hys hyl
      go_wp2
      go_ret
      have hfull : ys = edVals es := by
        have h1 := Hys.out
        rw [Hk.out, List.take_length, List.take_of_length_le (by rw [Hyl.out]; exact Nat.le_refl _)] at h1
        exact h1
      rw [hfull] at hown
      exact ⟨rfl, hown, hb⟩

/-- A copy of a program: two new rows; nothing old has turned. -/
def CopyProg (ss : List ByteArray) (p : Int) (es : List Ed) (w : World) (e : Ending) (w' : World) : Prop :=
  ∃ g1 g2, e = .returned (.agg #[.slice (some ⟨g1, 0, none⟩) ss.length ss.length, .int .i64 p, .slice (some ⟨g2, 0, none⟩) es.length es.length]) ∧ w.heap.size ≤ g1 ∧ g1 < g2 ∧
    w'.ownsRow g1 9 1 (.slice (some ⟨g1, 0, none⟩) ss.length ss.length) ss.length (strVals ss) ∧ w'.ownsRow g2 85 5 (.slice (some ⟨g2, 0, none⟩) es.length es.length) es.length (edVals es) ∧ Below w.heap.size w w'

set_option maxHeartbeats 800000 in
theorem toProgram (a : Option Addr) (cap : Nat) (ss : List ByteArray) (p : Int) (b : Option Addr) (capb : Nat) (es : List Ed) (w : World) (hn : ss.length ≤ 1099511627776) (hm : es.length ≤ 1099511627776) (ha : Row w w.heap.size a (strVals ss)) (hb : Row w w.heap.size b (edVals es)) :
    Calls Tryz.prog 24 #[.agg #[.slice a ss.length cap, .int .i64 p, .slice b es.length capb]] w (CopyProg ss p es w) := by
  have key : ∀ W, Below w.heap.size w W → Row W W.heap.size a (strVals ss) ∧ Row W W.heap.size b (edVals es) := fun W h => ⟨(ha.below h).grow h.size, (hb.below h).grow h.size⟩
  go_enter Tryz.func24, Tryz.ntmps24
  go_wp2_with fail
  refine (toStrs a cap ss _ hn (key _ ?_).1).mono ?_
  · repeat (first | exact Below.refl _ _ | refine Below.alloc ?_ (by simp <;> omega) _ | refine Below.setCell ?_ (by simp <;> omega) _)
  rintro e w1 ⟨rfl, ho1, hb1⟩
  obtain ⟨hc, hf⟩ := bcell hb1
  have hz := hb1.size
  simp at hz
  have hB1 : Below w.heap.size w w1 := by
    refine Below.trans ?_ (hb1.mono (by simp <;> omega))
    repeat (first | with_reducible exact Below.refl _ _ | with_reducible refine Below.alloc ?_ (by simp <;> omega) _ | with_reducible refine Below.setCell ?_ (by simp <;> omega) _)
  have Ho1 := Lib.hid ho1
  clear ho1
  go_wp2_with fail
  refine (toEdges b capb es _ hm (key _ ?_).2).mono ?_
  · repeat (first | with_reducible exact hB1 | with_reducible refine Below.alloc ?_ (by simp <;> omega) _ | with_reducible refine Below.setCell ?_ (by simp <;> omega) _)
  rintro e w2 ⟨rfl, ho2, hb2⟩
  obtain ⟨hc2, hf2⟩ := bcell hb2
  have hz2 := hb2.size
  simp at hz2
  have d0 : w2.cell? ⟨w.heap.size + 1 + 1, 0, none⟩ = some (.slice (some ⟨w.heap.size + 1 + 1 + 1, 0, none⟩) ss.length ss.length) := by
    rw [hc2 _ _ (by simp; omega)]
    simp [hc, go_sem]
  have d1 : w2.cell? ⟨w.heap.size + 1 + 1, 1, none⟩ = some (.int .i64 p) := by
    rw [hc2 _ _ (by simp; omega)]
    simp [hc, go_sem]
  have d2 : w2.cell? ⟨w.heap.size + 1 + 1, 2, none⟩ = some (.slice none 0 0) := by
    rw [hc2 _ _ (by simp; omega)]
    simp [hc, go_sem]
  have d3 : w2.frozen? ⟨w.heap.size + 1 + 1, 2, none⟩ = false := by
    rw [hf2 _ _ (by simp; omega)]
    simp [hf, go_sem]
  have r0 : w2.cell? ⟨w.heap.size + 1, 0, none⟩ = some (.slice none 0 0) := by
    rw [hc2 _ _ (by simp; omega)]
    simp [hc, go_sem]
  have r1 : w2.cell? ⟨w.heap.size + 1, 1, none⟩ = some (.int .i64 0) := by
    rw [hc2 _ _ (by simp; omega)]
    simp [hc, go_sem]
  have r2 : w2.cell? ⟨w.heap.size + 1, 2, none⟩ = some (.slice none 0 0) := by
    rw [hc2 _ _ (by simp; omega)]
    simp [hc, go_sem]
  have r3 : ∀ o, w2.frozen? ⟨w.heap.size + 1, o, none⟩ = false := by
    intro o
    rw [hf2 _ _ (by simp; omega)]
    simp [hf, go_sem]
  have hB2 : Below w.heap.size w w2 := by
    refine Below.trans ?_ (hb2.mono (by simp <;> omega))
    repeat (first | with_reducible exact hB1 | with_reducible refine Below.setCell ?_ (by simp <;> omega) _)
  have hk2 : w2.ownsRow (w.heap.size + 1 + 1 + 1) 9 1 (.slice (some ⟨w.heap.size + 1 + 1 + 1, 0, none⟩) ss.length ss.length) ss.length (strVals ss) := by
    have h0 : w1.ownsRow (w.heap.size + 1 + 1 + 1) 9 1 (.slice (some ⟨w.heap.size + 1 + 1 + 1, 0, none⟩) ss.length ss.length) ss.length (strVals ss) := by simpa using Ho1.out
    have h1 := ownsRow_setCell_below (ownsRow_setCell_below h0 (a := ⟨w.heap.size + 1 + 1, 0, none⟩) (Nat.lt_succ_self _) (.slice (some ⟨w.heap.size + 1 + 1 + 1, 0, none⟩) ss.length ss.length)) (a := ⟨w.heap.size + 1 + 1, 1, none⟩) (Nat.lt_succ_self _) (.int .i64 p)
    exact own_keeps h1 hb2
  have hE2 := ho2
  simp only [World.size_setCell] at hE2
  have hle : w.heap.size ≤ w.heap.size + 1 + 1 + 1 := by omega
  have hlt : w.heap.size + 1 + 1 + 1 < w1.heap.size := by
    have := Ho1.out.lt _ rfl
    simpa using this.2
  have HE2 := Lib.hid hE2
  have HK2 := Lib.hid hk2
  clear hE2 hk2 ho2 Ho1 hc hc2 hf hf2 hz hz2
  go_wp2
  refine bodyPost_ret (v := .agg #[.slice (some ⟨w.heap.size + 1 + 1 + 1, 0, none⟩) ss.length ss.length, .int .i64 p, .slice (some ⟨w1.heap.size, 0, none⟩) es.length es.length]) (by simp [results, Tryz.results24, go_sem, d0, d1, r0, r1, r2]) rfl ⟨w.heap.size + 1 + 1 + 1, w1.heap.size, rfl, hle, hlt, ?_, ?_, ?_⟩
  · repeat (first | with_reducible exact HK2.out | with_reducible refine ownsRow_setCell_below ?_ (by simp <;> omega) _)
  · repeat (first | with_reducible exact HE2.out | with_reducible refine ownsRow_setCell_below ?_ (by simp <;> omega) _)
  · repeat (first | with_reducible exact hB2 | with_reducible refine Below.setCell ?_ (by simp <;> omega) _)
end Go.Proofs.YtpmmjaceehlpiaaGreatDoor
/-
  The law writes marks into a []string of the program's answer, and looks later whether they are still there.
-/
namespace Go.Proofs.YtpmmjaceehlpiaaGreatDoor
open Go Go.RowKit

def marksFrom (k n : Nat) : List ByteArray := (List.range n).map fun i => markS (k + i)
theorem marks_length (k n : Nat) : (marksFrom k n).length = n := by simp [marksFrom]
theorem marks_next (k n : Nat) : marksFrom k (n + 1) = marksFrom k n ++ [markS (k + n)] := by simp [marksFrom, List.range_succ]
theorem marks_at (k n j : Nat) (h : j < n) : (strVals (marksFrom k n))[j]? = some (.string (markS (k + j))) := by
  simp [strVals, marksFrom, h]
theorem set_take' {α : Type} (ys : List α) (k : Nat) (x : α) (h : k < ys.length) : (ys.set k x).take (k + 1) = ys.take k ++ [x] := by
  rw [List.take_succ_eq_append_getElem (by simpa using h)]
  simp [List.take_set_of_le]

def MarkedEnd (base k n : Nat) (a : Option Addr) (cap : Nat) (w : World) (e : Ending) (w' : World) : Prop :=
  e = .returned (.int .i64 ((k + n : Nat) : Int)) ∧ w'.ownsRow base 9 1 (.slice a n cap) n (strVals (marksFrom k n)) ∧ Below base w w'

set_option maxRecDepth 100000 in
set_option maxHeartbeats 400000 in
theorem markStrs (base k n : Nat) (a : Option Addr) (cap : Nat) (xs : List Value) (w : World) (hn : n ≤ 549755813888) (hk : k ≤ 549755813888) (hB : base ≤ w.heap.size) (hown : w.ownsRow base 9 1 (.slice a n cap) n xs) :
    Calls Tryz.prog 80 #[.slice a n cap, .int .i64 k] w (MarkedEnd base k n a cap w) := by
  go_enter Tryz.func80, Tryz.ntmps80
  go_wp2
  go_loopw [1, 5] (fun m i wr => ∃ (j : Nat) (ys : List Value), j ≤ n ∧ i = .int .i64 j ∧ m = .int .i64 ((k + j : Nat) : Int) ∧ ys.take j = strVals (marksFrom k j) ∧ ys.length = n ∧ wr.ownsRow base 9 1 (.slice a n cap) n ys ∧ Below base w wr)
    (fun _ i _ => n - (intOf i).toNat)
  case atStart => exact ⟨0, xs, Nat.zero_le _, rfl, rfl, by simp [strVals, marksFrom], by simpa using hown.1, hown, Below.refl _ _⟩
  case round =>
    obtain ⟨j, ys, hj, rfl, rfl, hys, hyl, ho, hb⟩ := hrel
    by_cases hlt : j < n
    · obtain ⟨g, rfl⟩ : ∃ g, a = some ⟨g, 0, none⟩ := by
        rcases ho.2 with ⟨_, h0⟩ | ⟨g, _, _, hv, _⟩
        · omega
        · injection hv with hv _ _
          exact ⟨g, hv⟩
      have hklt : j < ys.length := by omega
      have Hys := Lib.hid hys
      have Hyl := Lib.hid hyl
      have Ho := Lib.hid ho
      clear hys hyl ho
      go_wp2_with fail
      refine (markText (k + j) (by omega) _).mono ?_
      rintro e w1 ⟨rfl, hb1⟩
      have ho1 := own_keeps Ho.out hb1
      obtain ⟨old, hold⟩ : ∃ old, w1.cell? ⟨g, j, none⟩ = some old := ⟨_, (ho1.cellAt j (by omega)).trans (List.getElem?_eq_getElem hklt)⟩
      have hfr := ho1.frozenAt j
      have hst := ho1.stored j (.string (markS (k + j)))
      have hgb : base ≤ g := by
        have := (ho1.lt g rfl).1
        exact this
      have hb2 : Below base w w1 := hb.trans (hb1.mono (Nat.le_trans hB hb.size))
      clear ho1
      go_wp2
      go_roundw
      case rel => exact ⟨j + 1, ys.set j (.string (markS (k + j))), by omega, by go_num, by go_num, by rw [set_take' ys j _ hklt, Hys.out, marks_next]; exact (strVals_snoc _ _).symm, by rw [List.length_set]; exact Hyl.out, hst.1, hb2.setCell hgb _⟩
      case measure => simp [intOf]; omega
    · have hjn : j = n := by omega
      subst hjn
      have hfull : ys = strVals (marksFrom k j) := by
        rw [List.take_of_length_le (by omega)] at hys
        exact hys
      subst hfull
      have Hyl := Lib.hid hyl
      clear hys hyl
      go_wp2
      go_ret
      exact ⟨rfl, ho, hb⟩

theorem held_keeps {w cur w1 : World} {p : Addr} {x : Value} (hp : p.block < w.heap.size) (h : cur.cell? p = some x ∧ Below w.heap.size w cur) (hb : Below cur.heap.size cur w1) : w1.cell? p = some x ∧ Below w.heap.size w w1 :=
  ⟨(hb.cell (Nat.lt_of_lt_of_le hp h.2.size)).trans h.1, h.2.trans (hb.mono h.2.size)⟩

/-- All marks are there: the count behind the last. -/
def HeldEnd (k n : Nat) (w : World) (e : Ending) (w' : World) : Prop := e = .returned (.int .i64 ((k + n : Nat) : Int)) ∧ Below w.heap.size w w'

end Go.Proofs.YtpmmjaceehlpiaaGreatDoor
/-
  The law writes marks into the edges of a program, and looks later whether they are still there.
  The law looks whether its marks still stand in a program's edges.
-/
namespace Go.Proofs.YtpmmjaceehlpiaaGreatDoor
open Go Go.RowKit

/-- The edge that bears the marks from k on. -/
def markE (k : Nat) : Ed := ⟨(k : Int), ((k + 1 : Nat) : Int), ((k + 2 : Nat) : Int), markS (k + 3), markS (k + 4)⟩
def marksE (k n : Nat) : List Ed := (List.range n).map fun i => markE (k + i * 5)
theorem marksE_length (k n : Nat) : (marksE k n).length = n := by simp [marksE]
theorem marksE_next (k n : Nat) : marksE k (n + 1) = marksE k n ++ [markE (k + n * 5)] := by simp [marksE, List.range_succ]
theorem marksE_at (k n j : Nat) (h : j < n) (h' : j < (marksE k n).length) : (marksE k n)[j] = markE (k + j * 5) := by simp [marksE]

theorem grown_call {w W W' : World} {r : Option Nat} (h : w.grownBy W r) (hb : Below W.heap.size W W') : w.grownBy W' r :=
  ⟨hb.os.trans h.os, hb.tape.trans h.tape, hb.output.trans h.output, Nat.le_trans h.size hb.size, fun k hk hne => (hb.block k (Nat.lt_of_lt_of_le hk h.size)).trans (h.block k hk hne)⟩
def MarkedG (base k n : Nat) (a : Option Addr) (cap : Nat) (w : World) (e : Ending) (w' : World) : Prop :=
  e = .returned (.int .i64 ((k + n : Nat) : Int)) ∧ w'.ownsRow base 9 1 (.slice a n cap) n (strVals (marksFrom k n)) ∧ w.grownBy w' (Value.slice a n cap).ownBlock

set_option maxRecDepth 100000 in
set_option maxHeartbeats 400000 in
theorem markStrsG (base k n : Nat) (a : Option Addr) (cap : Nat) (xs : List Value) (w : World) (hn : n ≤ 549755813888) (hk : k ≤ 549755813888) (hown : w.ownsRow base 9 1 (.slice a n cap) n xs) :
    Calls Tryz.prog 80 #[.slice a n cap, .int .i64 k] w (MarkedG base k n a cap w) := by
  go_enter Tryz.func80, Tryz.ntmps80
  go_wp2
  go_loopw [1, 5] (fun m i wr => ∃ (j : Nat) (ys : List Value), j ≤ n ∧ i = .int .i64 j ∧ m = .int .i64 ((k + j : Nat) : Int) ∧ ys.take j = strVals (marksFrom k j) ∧ ys.length = n ∧ wr.ownsRow base 9 1 (.slice a n cap) n ys ∧ w.grownBy wr (Value.slice a n cap).ownBlock)
    (fun _ i _ => n - (intOf i).toNat)
  case atStart => exact ⟨0, xs, Nat.zero_le _, rfl, rfl, by simp [strVals, marksFrom], by simpa using hown.1, hown, grown_self _ _⟩
  case round =>
    obtain ⟨j, ys, hj, rfl, rfl, hys, hyl, ho, hb⟩ := hrel
    by_cases hlt : j < n
    · obtain ⟨g, rfl⟩ : ∃ g, a = some ⟨g, 0, none⟩ := by
        rcases ho.2 with ⟨_, h0⟩ | ⟨g, _, _, hv, _⟩
        · omega
        · injection hv with hv _ _
          exact ⟨g, hv⟩
      have hklt : j < ys.length := by omega
      have Hys := Lib.hid hys
      have Hyl := Lib.hid hyl
      have Ho := Lib.hid ho
      clear hys hyl ho
      go_wp2_with fail
      refine (markText (k + j) (by omega) _).mono ?_
      rintro e w1 ⟨rfl, hb1⟩
      have ho1 := own_keeps Ho.out hb1
      obtain ⟨old, hold⟩ : ∃ old, w1.cell? ⟨g, j, none⟩ = some old := ⟨_, (ho1.cellAt j (by omega)).trans (List.getElem?_eq_getElem hklt)⟩
      have hfr := ho1.frozenAt j
      have hst := ho1.stored j (.string (markS (k + j)))
      have hb2 : w.grownBy w1 (some g) := grown_call hb hb1
      clear ho1
      go_wp2
      go_roundw
      case rel => exact ⟨j + 1, ys.set j (.string (markS (k + j))), by omega, by go_num, by go_num, by rw [set_take' ys j _ hklt, Hys.out, marks_next]; exact (strVals_snoc _ _).symm, by rw [List.length_set]; exact Hyl.out, hst.1, grown_cell hb2⟩
      case measure => simp [intOf]; omega
    · have hjn : j = n := by omega
      subst hjn
      have hfull : ys = strVals (marksFrom k j) := by
        rw [List.take_of_length_le (by omega)] at hys
        exact hys
      subst hfull
      have Hyl := Lib.hid hyl
      clear hys hyl
      go_wp2
      go_ret
      exact ⟨rfl, ho, hb⟩

def MarkedEdges (base k n : Nat) (a : Option Addr) (cap : Nat) (w : World) (e : Ending) (w' : World) : Prop :=
  e = .returned (.int .i64 ((k + n * 5 : Nat) : Int)) ∧ w'.ownsRow base 85 5 (.slice a n cap) n (edVals (marksE k n)) ∧ w.grownBy w' (Value.slice a n cap).ownBlock

set_option maxRecDepth 100000 in
set_option maxHeartbeats 1600000 in
theorem markEdges (base k n : Nat) (a : Option Addr) (cap : Nat) (xs : List Value) (w : World) (hn : n ≤ 54975581388) (hk : k ≤ 549755813888) (hown : w.ownsRow base 85 5 (.slice a n cap) n xs) :
    Calls Tryz.prog 81 #[.slice a n cap, .int .i64 k] w (MarkedEdges base k n a cap w) := by
  go_enter Tryz.func81, Tryz.ntmps81
  go_wp2
  go_loopw [1, 5] (fun m i wr => ∃ (j : Nat) (ys : List Value), j ≤ n ∧ i = .int .i64 j ∧ m = .int .i64 ((k + j * 5 : Nat) : Int) ∧ ys.take (j * 5) = edVals (marksE k j) ∧ ys.length = n * 5 ∧ wr.ownsRow base 85 5 (.slice a n cap) n ys ∧ w.grownBy wr (Value.slice a n cap).ownBlock)
    (fun _ i _ => n - (intOf i).toNat)
  case atStart => exact ⟨0, xs, Nat.zero_le _, rfl, rfl, by simp [edVals, marksE], by simpa using hown.1, hown, grown_self _ _⟩
  case round =>
    obtain ⟨j, ys, hj, rfl, rfl, hys, hyl, ho, hb⟩ := hrel
    by_cases hlt : j < n
    · obtain ⟨g, rfl⟩ : ∃ g, a = some ⟨g, 0, none⟩ := by
        rcases ho.2 with ⟨_, h0⟩ | ⟨g, _, _, hv, _⟩
        · omega
        · injection hv with hv _ _
          exact ⟨g, hv⟩
      obtain ⟨old0, hold0⟩ : ∃ old, wr.cell? ⟨g, j * 5, none⟩ = some old := ⟨_, (ho.cellAt (j * 5) (by omega)).trans (List.getElem?_eq_getElem (by omega))⟩
      obtain ⟨old1, hold1⟩ : ∃ old, wr.cell? ⟨g, j * 5 + 1, none⟩ = some old := ⟨_, (ho.cellAt (j * 5 + 1) (by omega)).trans (List.getElem?_eq_getElem (by omega))⟩
      obtain ⟨old2, hold2⟩ : ∃ old, wr.cell? ⟨g, j * 5 + 2, none⟩ = some old := ⟨_, (ho.cellAt (j * 5 + 2) (by omega)).trans (List.getElem?_eq_getElem (by omega))⟩
      have hf0 := ho.frozenAt (j * 5)
      have hf1 := ho.frozenAt (j * 5 + 1)
      have hf2 := ho.frozenAt (j * 5 + 2)
      have h0 := (ho.stored (j * 5) (.int .i64 ((k : Int) + (j : Int) * 5))).1
      have h1 := (h0.stored (j * 5 + 1) (.int .i64 ((k : Int) + (j : Int) * 5 + 1))).1
      have h2 := (h1.stored (j * 5 + 2) (.int .i64 ((k : Int) + (j : Int) * 5 + 1 + 1))).1
      have H2 := Lib.hid h2
      have Hys := Lib.hid hys
      have Hyl := Lib.hid hyl
      clear hys hyl ho h0 h1 h2
      go_wp2_with fail
      have e3 : (k : Int) + (j : Int) * 5 + 1 + 1 + 1 = ((k + j * 5 + 3 : Nat) : Int) := by omega
      rw [e3]
      refine (markText (k + j * 5 + 3) (by omega) _).mono ?_
      rintro e w1 ⟨rfl, hb1⟩
      have ho1 := own_keeps H2.out hb1
      have hB1 : w.grownBy w1 (some g) := grown_call (grown_cell (grown_cell (grown_cell hb))) hb1
      obtain ⟨old3, hold3⟩ : ∃ old, w1.cell? ⟨g, j * 5 + 3, none⟩ = some old := ⟨_, (ho1.cellAt (j * 5 + 3) (by omega)).trans (List.getElem?_eq_getElem (by simp [Hyl.out]; omega))⟩
      have hf3 := ho1.frozenAt (j * 5 + 3)
      have h3 := (ho1.stored (j * 5 + 3) (.string (markS (k + j * 5 + 3)))).1
      have H3 := Lib.hid h3
      clear ho1 h3 hold0 hold1 hold2 hf0 hf1 hf2
      go_wp2_with fail
      have e4 : (k : Int) + (j : Int) * 5 + 3 + 1 = ((k + j * 5 + 4 : Nat) : Int) := by omega
      rw [e4]
      clear e3 e4
      refine (markText (k + j * 5 + 4) (by omega) _).mono ?_
      rintro e w2 ⟨rfl, hb2⟩
      have ho2 := own_keeps H3.out hb2
      have hB2 : w.grownBy w2 (some g) := grown_call (grown_cell hB1) hb2
      obtain ⟨old4, hold4⟩ : ∃ old, w2.cell? ⟨g, j * 5 + 4, none⟩ = some old := ⟨_, (ho2.cellAt (j * 5 + 4) (by omega)).trans (List.getElem?_eq_getElem (by simp [Hyl.out]; omega))⟩
      have hf4 := ho2.frozenAt (j * 5 + 4)
      have h4 := (ho2.stored (j * 5 + 4) (.string (markS (k + j * 5 + 4)))).1
      have H4 := Lib.hid h4
      clear ho2 h4 hold3 hf3
      go_wp2
      go_roundw
      case rel =>
        refine ⟨j + 1, set5 ys (j * 5) (markE (k + j * 5)), by omega, by go_num, ?_, ?_, ?_, ?_, grown_cell hB2⟩
        · congr 1; omega
        · rw [Nat.add_mul, Nat.one_mul, set5_take _ _ _ (by rw [Hyl.out]; omega), Hys.out, marksE_next, edVals_snoc]
        · rw [set5_length]
          exact Hyl.out
        · have h := H4.out
          have q0 : ((k + j * 5 : Nat) : Int) = (k : Int) + (j : Int) * 5 := by omega
          have q1 : ((k + j * 5 + 1 : Nat) : Int) = (k : Int) + (j : Int) * 5 + 1 := by omega
          have q2 : ((k + j * 5 + 2 : Nat) : Int) = (k : Int) + (j : Int) * 5 + 1 + 1 := by omega
          unfold set5 markE
          simp only
          rw [q0, q1, q2]
          exact h
      case measure => simp [intOf]; omega
    · have hjn : j = n := by omega
      subst hjn
      have hfull : ys = edVals (marksE k j) := by
        rw [List.take_of_length_le (by omega)] at hys
        exact hys
      subst hfull
      have Hyl := Lib.hid hyl
      clear hys hyl
      go_wp2
      go_ret
      exact ⟨rfl, ho, hb⟩

/-- A program's two rows marked: the count goes on; nothing else has turned. -/
def MarkedProg (base1 base2 k n m : Nat) (a b : Option Addr) (ca cb : Nat) (w : World) (e : Ending) (w' : World) : Prop :=
  e = .returned (.int .i64 ((k + n + m * 5 : Nat) : Int)) ∧ w'.ownsRow base1 9 1 (.slice a n ca) n (strVals (marksFrom k n)) ∧ w'.ownsRow base2 85 5 (.slice b m cb) m (edVals (marksE (k + n) m)) ∧
    w.heap.size ≤ w'.heap.size ∧ w'.os = w.os ∧ w'.tape = w.tape ∧ w'.output = w.output ∧ ∀ j, j < w.heap.size → (Value.slice a n ca).ownBlock ≠ some j → (Value.slice b m cb).ownBlock ≠ some j → w'.heap[j]? = w.heap[j]?

set_option maxRecDepth 100000 in
set_option maxHeartbeats 800000 in
theorem markProgram (base1 base2 k n m : Nat) (a b : Option Addr) (ca cb : Nat) (xs ys : List Value) (p : Int) (w : World) (hn : n ≤ 5497558138) (hm : m ≤ 5497558138) (hk : k ≤ 54975581388)
    (ha : w.ownsRow base1 9 1 (.slice a n ca) n xs) (hb : w.ownsRow base2 85 5 (.slice b m cb) m ys) (hne : ∀ j, (Value.slice a n ca).ownBlock = some j → (Value.slice b m cb).ownBlock ≠ some j) :
    Calls Tryz.prog 31 #[.agg #[.slice a n ca, .int .i64 p, .slice b m cb], .int .i64 k] w (MarkedProg base1 base2 k n m a b ca cb w) := by
  go_enter Tryz.func31, Tryz.ntmps31
  go_wp2_with fail
  obtain ⟨W0, hW0, hb0, hs0, hA0⟩ := one_box w (.slice a n ca) (.int .i64 p) (.slice b m cb) 27
  rw [hW0]
  clear hW0
  have halt : ∀ j, (Value.slice a n ca).ownBlock = some j → j < w.heap.size := fun j hj => (ha.lt j hj).2
  have hblt : ∀ j, (Value.slice b m cb).ownBlock = some j → j < w.heap.size := fun j hj => (hb.lt j hj).2
  refine (markStrsG base1 k n a ca xs _ (by omega) (by omega) (own_keeps ha hb0)).mono ?_
  rintro e w1 ⟨rfl, ho1, hg1⟩
  have hk1 : ∀ g o, g < W0.heap.size → (Value.slice a n ca).ownBlock ≠ some g → w1.cell? ⟨g, o, none⟩ = W0.cell? ⟨g, o, none⟩ := fun g o hg hne' => World.cell?_of_block (hg1.block g hg fun e => hne' e.symm)
  have hne0 : (Value.slice a n ca).ownBlock ≠ some w.heap.size := fun h => by have := halt _ h; omega
  have d0 : w1.cell? ⟨w.heap.size, 2, none⟩ = some (.slice b m cb) := (hk1 _ _ hs0 hne0).trans hA0.2.2
  have hb1 := own_other (own_keeps hb hb0) hg1 fun j hj e => hne j e.symm hj
  have H1 := Lib.hid ho1
  have Hb1 := Lib.hid hb1
  clear ho1 hb1
  go_wp2_with fail
  have ek : (k : Int) + (n : Int) = ((k + n : Nat) : Int) := by omega
  rw [ek]
  refine (markEdges base2 (k + n) m b cb ys _ (by omega) (by omega) Hb1.out).mono ?_
  rintro e w2 ⟨rfl, ho2, hg2⟩
  have ho1 := own_other H1.out hg2 fun j hj e => hne j hj e.symm
  have HO1 := Lib.hid ho1
  have HO2 := Lib.hid ho2
  clear ho1 ho2 ek d0
  go_wp2
  go_ret
  refine ⟨rfl, HO1.out, HO2.out, Nat.le_trans hb0.size (Nat.le_trans hg1.size hg2.size), hg2.os.trans (hg1.os.trans hb0.os), hg2.tape.trans (hg1.tape.trans hb0.tape), hg2.output.trans (hg1.output.trans hb0.output), fun j hj h1 h2 => ?_⟩
  rw [hg2.block j (by have := hb0.size; have := hg1.size; omega) fun e => h2 e.symm, hg1.block j (by have := hb0.size; omega) fun e => h1 e.symm, hb0.block j hj]
end Go.Proofs.YtpmmjaceehlpiaaGreatDoor

namespace Go.Proofs.YtpmmjaceehlpiaaGreatDoor
open Go Go.RowKit

/-- All marks are there: the count behind the last. -/
def HeldEdgesEnd (k n : Nat) (w : World) (e : Ending) (w' : World) : Prop := e = .returned (.int .i64 ((k + n * 5 : Nat) : Int)) ∧ Below w.heap.size w w'

/-- All marks of a program are there. -/
def HeldProgEnd (k n m : Nat) (w : World) (e : Ending) (w' : World) : Prop := e = .returned (.int .i64 ((k + n + m * 5 : Nat) : Int)) ∧ Below w.heap.size w w'

end Go.Proofs.YtpmmjaceehlpiaaGreatDoor
