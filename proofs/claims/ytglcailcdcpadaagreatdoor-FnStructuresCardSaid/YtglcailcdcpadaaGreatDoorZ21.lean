/-
  Several texts of one proof in one file, in the order in which they build.
-/
import Derived.Lib.ItoaNum
import Derived.Laws.BytesString
import Derived.Laws.IdiomStrings
import Derived.Test.YtglcailcdcpadaaGreatDoorChecked
import Derived.Test.YtglcailcdcpadaaGreatDoorZ03
import Derived.Test.YtglcailcdcpadaaGreatDoorZ19
/-
  Decimal digits as the model's loop makes them; a byte of the call's own turned into a string. Nothing here knows of the program.
-/
namespace Go.Proofs.YtglcailcdcpadaaGreatDoor
open Go Go.ChangeShapes Go.WideShapes Go.ChangeAt Go.RowKit

/-- The digits that are still to come: none of 0. -/
def digs (u : Nat) : List UInt8 := if u = 0 then [] else Lib.decDigits u
theorem digs_zero : digs 0 = [] := rfl
theorem digs_pos {u : Nat} (h : 0 < u) : digs u = Lib.decDigits u := by unfold digs; rw [if_neg (by omega)]
theorem digs_next {u : Nat} (h : 0 < u) : digs u = digs (u / 10) ++ [UInt8.ofNat (48 + u % 10)] := by
  by_cases h10 : u < 10
  · rw [digs_pos h, Lib.decDigits_one h10, show u / 10 = 0 by omega, digs_zero, show u % 10 = u by omega]
    rfl
  · rw [digs_pos h, digs_pos (show 0 < u / 10 by omega), Lib.decDigits, dif_neg h10]

theorem digs_length : ∀ (k u : Nat), u ≤ k → (digs u).length ≤ u
  | 0, u, h => by
    obtain rfl : u = 0 := by omega
    simp [digs_zero]
  | k + 1, u, h => by
    by_cases h0 : 0 < u
    · have ih := digs_length k (u / 10) (by omega)
      rw [digs_next h0, List.length_append, List.length_singleton]
      omega
    · obtain rfl : u = 0 := by omega
      simp [digs_zero]
/-- While digits are still to come, one more fits. -/
theorem digs_room {u N : Nat} {l : List UInt8} (h0 : 0 < u) (h : digs u ++ l = digs N) : 1 + l.length ≤ N / 10 + 1 := by
  have h1 := congrArg List.length h
  rw [digs_next h0, List.length_append, List.length_append, List.length_singleton] at h1
  by_cases hN : 0 < N
  · rw [digs_next hN, List.length_append, List.length_singleton] at h1
    have h2 := digs_length (N / 10) (N / 10) (Nat.le_refl _)
    omega
  · obtain rfl : N = 0 := by omega
    simp [digs_zero] at h1
theorem bytes_cons (x : UInt8) (l : List UInt8) : (⟨#[x]⟩ : ByteArray) ++ ⟨l.toArray⟩ = ⟨(x :: l).toArray⟩ := by
  apply ByteArray.ext
  simp

theorem byte_split (k : Nat) : UInt8.ofNat (48 + k) = 48 + UInt8.ofNat k := by
  simp

theorem tmod_neg (u : Nat) : (-(u : Int)).tmod 10 = -((u % 10 : Nat) : Int) := by
  rw [Int.neg_tmod, Int.tmod_eq_emod_of_nonneg (by omega)]
  omega
theorem tdiv_neg (u : Nat) : (-(u : Int)).tdiv 10 = -((u / 10 : Nat) : Int) := by
  rw [Int.neg_tdiv, Int.tdiv_eq_ediv_of_nonneg (by omega)]
  omega

/-- string of one byte that was just made. -/
theorem conv_byte {P : Program} {src dst e : TypeId} (hs : P.underlying src = some (.slice e)) (he : P.underlying e = some (.int .u8)) (hd : P.underlying dst = some .string) (W : World) (x : Nat) (hx : x < 256) :
    (convert src dst (.slice (some ⟨W.heap.size, 0, none⟩) 1 1)).run P (W.alloc (.cells #[.int .u8 (x : Int)] e)) = .ok (.string ⟨#[UInt8.ofNat x]⟩) (W.alloc (.cells #[.int .u8 (x : Int)] e)) := by
  have h := run_convert_bytes_back (P := P) (W.alloc (.cells #[.int .u8 (x : Int)] e)) src dst e ⟨W.heap.size, 0, none⟩ 1 [UInt8.ofNat x] hs he hd (fun j hj => by
    have : j = 0 := by simpa using hj
    subst this
    have hn : (UInt8.ofNat x).toNat = x := by simp; omega
    rw [add_plain]
    simp only [List.getElem_cons_zero, hn, Nat.zero_add]
    exact World.cell?_alloc_at _ _ _ _ rfl)
  exact h
end Go.Proofs.YtglcailcdcpadaaGreatDoor
/-
  The model's FormatInt: for every int it returns the decimal digits, behind '-' where it is negative.
-/
namespace Go.Proofs.YtglcailcdcpadaaGreatDoor
open Go Go.RowKit

def NumeralEnd (n : Int) (w : World) (e : Ending) (w' : World) : Prop := e = .returned (.string ⟨(Lib.itoa n).toArray⟩) ∧ Below w.heap.size w w'

theorem specFormat_zero (w : World) : Calls Tryz.prog 103 #[.int .i64 0] w (NumeralEnd 0 w) := by
  go_enter Tryz.func103, Tryz.ntmps103
  go_wp2
  go_ret
  exact ⟨by rw [show Lib.itoa 0 = [48] from by simp [Lib.itoa, Lib.decDigits]]; rfl, Below.refl _ _⟩

theorem bytes_next (k : Nat) (l : List UInt8) : Value.string ((⟨#[48 + UInt8.ofNat k]⟩ : ByteArray) ++ ⟨l.toArray⟩) = Value.string ⟨(UInt8.ofNat (48 + k) :: l).toArray⟩ := by
  rw [byte_split]
  exact congrArg Value.string (bytes_cons _ l)

set_option maxRecDepth 100000 in
set_option maxHeartbeats 400000 in
theorem specFormat_pos (N : Nat) (h0 : 0 < N) (h1 : N ≤ 9223372036854775807) (w : World) :
    Calls Tryz.prog 103 #[.int .i64 N] w (NumeralEnd N w) := by
  have hz : ((N : Int) == 0) = false := by simp; omega
  have hn : decide ((N : Int) < 0) = false := by simp
  go_enter Tryz.func103, Tryz.ntmps103
  go_wp2
  go_loopw [0, 4, 5] (fun n out d wr => ∃ (u : Nat) (l : List UInt8), u ≤ N ∧ n = .int .i64 u ∧ out = .string ⟨l.toArray⟩ ∧ digs u ++ l = digs N ∧ Below w.heap.size w wr) (fun n _ _ _ => (intOf n).toNat)
  case atStart => exact ⟨N, [], Nat.le_refl _, rfl, rfl, by simp, Below.refl _ _⟩
  case round =>
    obtain ⟨u, l, hu, rfl, rfl, hd, hb⟩ := hrel
    by_cases hlt : 0 < u
    · have hnx := digs_next hlt
      have hroom := digs_room hlt hd
      have hl : 1 + l.length ≤ 9223372036854775807 := by omega
      have Hd := Lib.hid hd
      have Hnx := Lib.hid hnx
      clear hd hnx hroom
      have hne : ((u : Int) != 0) = true := by simp; omega
      have kc : ∀ W : World, (convert 22 9 (.slice (some ⟨W.heap.size, 0, none⟩) 1 1)).run Tryz.prog (W.alloc (.cells #[.int .u8 (48 + (u : Int) % 10)] 5)) = .ok (.string ⟨#[UInt8.ofNat (48 + u % 10)]⟩) (W.alloc (.cells #[.int .u8 (48 + (u : Int) % 10)] 5)) := fun W => by
        have h := conv_byte (P := Tryz.prog) Tryz.underlying22 Tryz.underlying5 Tryz.underlying9 W (48 + u % 10) (by omega)
        have e : ((48 + u % 10 : Nat) : Int) = 48 + (u : Int) % 10 := by omega
        rw [e] at h
        exact h
      go_wp2
      go_roundw
      case rel => exact ⟨u / 10, UInt8.ofNat (48 + u % 10) :: l, by omega, by go_num, bytes_next _ _, by rw [← Hd.out, Hnx.out]; simp, hb.alloc hb.size _⟩
      case measure => simp [intOf]; omega
    · have hu0 : u = 0 := by omega
      subst hu0
      have Hd := Lib.hid hd
      clear hd
      have hfin : l = Lib.itoa N := by
        have h := Hd.out
        rw [digs_zero, List.nil_append, digs_pos h0] at h
        rw [h, Lib.itoa, if_neg (by omega)]
        simp
      have Hfin := Lib.hid hfin
      clear hfin
      go_wp2
      go_ret
      exact ⟨by rw [← Hfin.out]; rfl, hb⟩

set_option maxRecDepth 100000 in
set_option maxHeartbeats 400000 in
theorem specFormat_neg (N : Nat) (h0 : 0 < N) (h1 : N ≤ 9223372036854775808) (w : World) :
    Calls Tryz.prog 103 #[.int .i64 (-(N : Int))] w (NumeralEnd (-(N : Int)) w) := by
  have hz : (-(N : Int) == 0) = false := by simp; omega
  have hn : decide (-(N : Int) < 0) = true := by simp; omega
  go_enter Tryz.func103, Tryz.ntmps103
  go_wp2
  go_loopw [0, 4, 5] (fun n out d wr => ∃ (u : Nat) (l : List UInt8), u ≤ N ∧ n = .int .i64 (-(u : Int)) ∧ out = .string ⟨l.toArray⟩ ∧ digs u ++ l = digs N ∧ Below w.heap.size w wr) (fun n _ _ _ => (intOf n).natAbs)
  case atStart => exact ⟨N, [], Nat.le_refl _, rfl, rfl, by simp, Below.refl _ _⟩
  case round =>
    obtain ⟨u, l, hu, rfl, rfl, hd, hb⟩ := hrel
    by_cases hlt : 0 < u
    · have hnx := digs_next hlt
      have hroom := digs_room hlt hd
      have hl : 1 + l.length ≤ 9223372036854775807 := by omega
      have Hd := Lib.hid hd
      have Hnx := Lib.hid hnx
      clear hd hnx hroom
      have hne : (-(u : Int) != 0) = true := by simp; omega
      have hm1 := tmod_neg u
      have hm2 := tdiv_neg u
      by_cases hlast : 0 < (u : Int) % 10
      · have kc : ∀ W : World, (convert 22 9 (.slice (some ⟨W.heap.size, 0, none⟩) 1 1)).run Tryz.prog (W.alloc (.cells #[.int .u8 (48 + (u : Int) % 10)] 5)) = .ok (.string ⟨#[UInt8.ofNat (48 + u % 10)]⟩) (W.alloc (.cells #[.int .u8 (48 + (u : Int) % 10)] 5)) := fun W => by
          have h := conv_byte (P := Tryz.prog) Tryz.underlying22 Tryz.underlying5 Tryz.underlying9 W (48 + u % 10) (by omega)
          have e : ((48 + u % 10 : Nat) : Int) = 48 + (u : Int) % 10 := by omega
          rw [e] at h
          exact h
        go_wp2
        go_roundw
        case rel => exact ⟨u / 10, UInt8.ofNat (48 + u % 10) :: l, by omega, by go_num, bytes_next _ _, by rw [← Hd.out, Hnx.out]; simp, hb.alloc hb.size _⟩
        case measure => simp [intOf]; omega
      · have kc : ∀ W : World, (convert 22 9 (.slice (some ⟨W.heap.size, 0, none⟩) 1 1)).run Tryz.prog (W.alloc (.cells #[.int .u8 (48 + -((u : Int) % 10))] 5)) = .ok (.string ⟨#[UInt8.ofNat (48 + u % 10)]⟩) (W.alloc (.cells #[.int .u8 (48 + -((u : Int) % 10))] 5)) := fun W => by
          have h := conv_byte (P := Tryz.prog) Tryz.underlying22 Tryz.underlying5 Tryz.underlying9 W (48 + u % 10) (by omega)
          have e : ((48 + u % 10 : Nat) : Int) = 48 + -((u : Int) % 10) := by omega
          rw [e] at h
          exact h
        go_wp2
        go_roundw
        case rel => exact ⟨u / 10, UInt8.ofNat (48 + u % 10) :: l, by omega, by go_num, bytes_next _ _, by rw [← Hd.out, Hnx.out]; simp, hb.alloc hb.size _⟩
        case measure => simp [intOf]; omega
    · have hu0 : u = 0 := by omega
      subst hu0
      have Hd := Lib.hid hd
      clear hd
      have hlen : 1 + l.length ≤ 9223372036854775807 := by
        have h := congrArg List.length Hd.out
        rw [digs_zero, List.nil_append, digs_next h0, List.length_append, List.length_singleton] at h
        have h2 := digs_length (N / 10) (N / 10) (Nat.le_refl _)
        omega
      have hfin : 45 :: l = Lib.itoa (-(N : Int)) := by
        have h := Hd.out
        rw [digs_zero, List.nil_append, digs_pos h0] at h
        rw [h, Lib.itoa, if_pos (by omega), Int.natAbs_neg, Int.natAbs_natCast]
      have Hfin := Lib.hid hfin
      clear hfin
      go_wp2
      go_ret
      exact ⟨by rw [← Hfin.out, ← bytes_cons]; rfl, hb⟩

theorem specFormat (n : Int) (h0 : -9223372036854775808 ≤ n) (h1 : n ≤ 9223372036854775807) (w : World) :
    Calls Tryz.prog 103 #[.int .i64 n] w (NumeralEnd n w) := by
  rcases Int.lt_trichotomy n 0 with h | h | h
  · obtain ⟨N, rfl⟩ : ∃ N : Nat, n = -(N : Int) := ⟨n.natAbs, by omega⟩
    exact specFormat_neg N (by omega) (by omega) w
  · subst h
    exact specFormat_zero w
  · obtain ⟨N, rfl⟩ : ∃ N : Nat, n = (N : Int) := ⟨n.natAbs, by omega⟩
    exact specFormat_pos N (by omega) (by omega) w
end Go.Proofs.YtglcailcdcpadaaGreatDoor
/-
  The model's Join: it returns the strings one after the other, the separator between them.
-/
namespace Go.Proofs.YtglcailcdcpadaaGreatDoor
open Go Go.RowKit

theorem byteInfo : (Tryz.prog.info? 5).map (fun i => (i.zero, i.size, i.bytes)) = some (some (.int .u8 0), 1, 1) := by kernel_rfl

/-- It returned the joined bytes, and nothing old has turned. -/
def TextEnd (l : List UInt8) (w : World) (e : Ending) (w' : World) : Prop := e = .returned (.string ⟨l.toArray⟩) ∧ Below w.heap.size w w'

set_option maxHeartbeats 400000 in
theorem specJoin (a : Option Addr) (cap : Nat) (ss : List ByteArray) (sep : ByteArray) (w : World) (hn : ss.length ≤ maxLen) (hB : ss.length * sep.size + total ss ≤ 70368744177664) (hrow : Row w w.heap.size a (strVals ss)) :
    Calls Tryz.prog 59 #[.slice a ss.length cap, .string sep] w (TextEnd (jn ss sep) w) := by
  unfold maxLen at hn
  obtain ⟨i0, hi, hz0, hz1, hz2⟩ := info_parts byteInfo
  go_enter Tryz.func59, Tryz.ntmps59
  go_wp2
  go_loopw [5, 6] (fun v i wr => ∃ (k m : Nat), k ≤ ss.length ∧ i = .int .i64 k ∧ m = (jn (ss.take k) sep).length ∧ wr.ownsRow w.heap.size 5 1 v m (Lib.byteCells (jn (ss.take k) sep)) ∧ Below w.heap.size w wr)
    (fun _ i _ => ss.length - (intOf i).toNat)
  case atStart => exact ⟨0, 0, Nat.zero_le _, rfl, rfl, World.ownsRow_made w #[] 0 (Nat.le_refl _) (Nat.zero_le _) rfl, (Below.refl _ _).alloc (Nat.le_refl _) _⟩
  case round =>
    obtain ⟨k, m, hk, rfl, hm, hown, hb⟩ := hrel
    by_cases hlt : k < ss.length
    · obtain ⟨b, o, rfl, hbW, hc⟩ := hrow k (.string ss[k]) (by simp [strVals, hlt])
      have hc1 : wr.cell? ⟨b, o + k, none⟩ = some (.string ss[k]) := (hb.cell (p := ⟨b, o + k, none⟩) hbW).trans hc
      have hnext := jn_bound ss sep (k + 1)
      have Hown := Lib.hid hown
      have Hm := Lib.hid hm
      clear hown hm hc
      by_cases h0 : 0 < k
      · have hj := jn_next ss sep k hlt h0
        have hlen : m + sep.size + ss[k].size ≤ 70368744177664 := by
          rw [hj, List.length_append, List.length_append, size_toList, size_toList, ← Hm.out] at hnext
          omega
        have Hj := Lib.hid hj
        clear hj hnext
        go_wp2_with (first
          | (at_builtin; refine Lib.wpList_append_own_string _ rfl (.tmp 16) (.tmp 17) 22 9 rfl w.heap.size 5 i0 Tryz.underlying22 Tryz.underlying9 hi hz0 hz1 hz2 _ m _ rfl Hown.out sep rfl (by unfold maxLen; omega) (by omega) hb.size ?_; intro v1 w1 hown1 hg1 _; have hc2 := own_cell Hown.out hg1 (p := ⟨b, o + k, none⟩) hbW hc1; have hb1 := own_below Hown.out hg1 hb.size hb; clear hg1)
          | (at_builtin; refine Lib.wpList_append_own_string _ rfl (.tmp 19) (.tmp 23) 22 9 rfl w.heap.size 5 i0 Tryz.underlying22 Tryz.underlying9 hi hz0 hz1 hz2 _ (m + sep.size) _ rfl hown1 ss[k] rfl (by unfold maxLen; omega) (by omega) hb1.size ?_; intro v2 w2 hown2 hg2 _; have hb2 := own_below hown1 hg2 hb1.size hb1; clear hg2))
        go_roundw
        case rel =>
          refine ⟨k + 1, m + sep.size + ss[k].size, by omega, by go_num, ?_, ?_, hb2⟩
          · rw [Hj.out, List.length_append, List.length_append, size_toList, size_toList, ← Hm.out]
          · rw [Hj.out, Lib.byteCells_append, Lib.byteCells_append]
            exact hown2
        case measure => simp [intOf]; omega
      · have hk0 : k = 0 := by omega
        subst hk0
        have hc0 : wr.cell? ⟨b, o, none⟩ = some (.string ss[0]) := by simpa using hc1
        have hj := jn_first ss sep hlt
        have hlen : m + ss[0].size ≤ 70368744177664 := by
          have h1 : m = 0 := Hm.out
          have h2 : (jn (ss.take 1) sep).length ≤ _ := hnext
          rw [hj, size_toList] at h2
          omega
        have Hj := Lib.hid hj
        clear hj hnext
        go_wp2_with (at_builtin; refine Lib.wpList_append_own_string _ rfl (.tmp 19) (.tmp 23) 22 9 rfl w.heap.size 5 i0 Tryz.underlying22 Tryz.underlying9 hi hz0 hz1 hz2 _ m _ rfl Hown.out ss[0] rfl (by unfold maxLen; omega) (by omega) hb.size ?_; intro v2 w2 hown2 hg2 _; have hb2 := own_below Hown.out hg2 hb.size hb; clear hg2)
        go_roundw
        case rel =>
          refine ⟨1, m + ss[0].size, by omega, rfl, ?_, ?_, hb2⟩
          · rw [Hj.out, size_toList, Hm.out]
            simp [jn_nil]
          · rw [Hj.out]
            exact hown2
        case measure => simp [intOf]; omega
    · have hk' : k = ss.length := by omega
      have hconv := string_owned (P := Tryz.prog) 22 9 Tryz.underlying22 Tryz.underlying5 Tryz.underlying9 hown
      rw [hk', List.take_length] at hconv
      have Hk := Lib.hid hk'
      clear hk' hm
      go_wp2
      go_ret
      exact ⟨rfl, hb⟩
end Go.Proofs.YtglcailcdcpadaaGreatDoor
