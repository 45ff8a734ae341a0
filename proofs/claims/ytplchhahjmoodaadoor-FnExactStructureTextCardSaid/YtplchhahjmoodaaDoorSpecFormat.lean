/-
  The model's FormatInt: for every int it returns the decimal digits, behind '-' where it is negative.
-/
import Derived.Test.YtplchhahjmoodaaDoorDigits
import Derived.Test.YtplchhahjmoodaaDoorChecked
namespace Go.Proofs.YtplchhahjmoodaaDoor
open Go Go.RowKit

def NumeralEnd (n : Int) (w : World) (e : Ending) (w' : World) : Prop := e = .returned (.string ⟨(Lib.itoa n).toArray⟩) ∧ Below w.heap.size w w'

theorem specFormat_zero (w : World) : Calls Tryd.prog 64 #[.int .i64 0] w (NumeralEnd 0 w) := by
  go_enter Tryd.func64, Tryd.ntmps64
  go_wp2
  go_ret
  exact ⟨by rw [show Lib.itoa 0 = [48] from by simp [Lib.itoa, Lib.decDigits]]; rfl, Below.refl _ _⟩

theorem bytes_next (k : Nat) (l : List UInt8) : Value.string ((⟨#[48 + UInt8.ofNat k]⟩ : ByteArray) ++ ⟨l.toArray⟩) = Value.string ⟨(UInt8.ofNat (48 + k) :: l).toArray⟩ := by
  rw [byte_split]
  exact congrArg Value.string (bytes_cons _ l)

set_option maxRecDepth 100000 in
set_option maxHeartbeats 400000 in
theorem specFormat_pos (N : Nat) (h0 : 0 < N) (h1 : N ≤ 9223372036854775807) (w : World) :
    Calls Tryd.prog 64 #[.int .i64 N] w (NumeralEnd N w) := by
  have hz : ((N : Int) == 0) = false := by simp; omega
  have hn : decide ((N : Int) < 0) = false := by simp
  go_enter Tryd.func64, Tryd.ntmps64
  go_wp2
  go_loopw [0, 4, 5] (fun n out d wr => ∃ (u : Nat) (l : List UInt8), u ≤ N ∧ n = .int .i64 u ∧ out = .string ⟨l.toArray⟩ ∧ digs u ++ l = digs N ∧ Below w.heap.size w wr) (fun n _ _ _ => (intOf n).toNat)
  case atStart => exact ⟨N, [], Nat.le_refl _, rfl, rfl, by simp, Below.refl _ _⟩
  case round =>
    obtain ⟨u, l, hu, rfl, rfl, hd, hb⟩ := hrel
    by_cases hlt : 0 < u
    · have hnx := digs_next hlt
      have hroom := digs_room hlt hd
      have hl : 1 + l.length ≤ 9223372036854775807 := by omega
      have Hd := Lib.hid hd
      have Hnx := Lib.hid hnx
      clear hd hnx hroom
      have hne : ((u : Int) != 0) = true := by simp; omega
      have kc : ∀ W : World, (convert 83 9 (.slice (some ⟨W.heap.size, 0, none⟩) 1 1)).run Tryd.prog (W.alloc (.cells #[.int .u8 (48 + (u : Int) % 10)] 5)) = .ok (.string ⟨#[UInt8.ofNat (48 + u % 10)]⟩) (W.alloc (.cells #[.int .u8 (48 + (u : Int) % 10)] 5)) := fun W => by
        have h := conv_byte (P := Tryd.prog) Tryd.underlying83 Tryd.underlying5 Tryd.underlying9 W (48 + u % 10) (by omega)
        have e : ((48 + u % 10 : Nat) : Int) = 48 + (u : Int) % 10 := by omega
        rw [e] at h
        exact h
      go_wp2
      go_roundw
      case rel => exact ⟨u / 10, UInt8.ofNat (48 + u % 10) :: l, by omega, by go_num, bytes_next _ _, by rw [← Hd.out, Hnx.out]; simp, hb.alloc hb.size _⟩
      case measure => simp [intOf]; omega
    · have hu0 : u = 0 := by omega
      subst hu0
      have Hd := Lib.hid hd
      clear hd
      have hfin : l = Lib.itoa N := by
        have h := Hd.out
        rw [digs_zero, List.nil_append, digs_pos h0] at h
        rw [h, Lib.itoa, if_neg (by omega)]
        simp
      have Hfin := Lib.hid hfin
      clear hfin
      go_wp2
      go_ret
      exact ⟨by rw [← Hfin.out]; rfl, hb⟩

set_option maxRecDepth 100000 in
set_option maxHeartbeats 400000 in
theorem specFormat_neg (N : Nat) (h0 : 0 < N) (h1 : N ≤ 9223372036854775808) (w : World) :
    Calls Tryd.prog 64 #[.int .i64 (-(N : Int))] w (NumeralEnd (-(N : Int)) w) := by
  have hz : (-(N : Int) == 0) = false := by simp; omega
  have hn : decide (-(N : Int) < 0) = true := by simp; omega
  go_enter Tryd.func64, Tryd.ntmps64
  go_wp2
  go_loopw [0, 4, 5] (fun n out d wr => ∃ (u : Nat) (l : List UInt8), u ≤ N ∧ n = .int .i64 (-(u : Int)) ∧ out = .string ⟨l.toArray⟩ ∧ digs u ++ l = digs N ∧ Below w.heap.size w wr) (fun n _ _ _ => (intOf n).natAbs)
  case atStart => exact ⟨N, [], Nat.le_refl _, rfl, rfl, by simp, Below.refl _ _⟩
  case round =>
    obtain ⟨u, l, hu, rfl, rfl, hd, hb⟩ := hrel
    by_cases hlt : 0 < u
    · have hnx := digs_next hlt
      have hroom := digs_room hlt hd
      have hl : 1 + l.length ≤ 9223372036854775807 := by omega
      have Hd := Lib.hid hd
      have Hnx := Lib.hid hnx
      clear hd hnx hroom
      have hne : (-(u : Int) != 0) = true := by simp; omega
      have hm1 := tmod_neg u
      have hm2 := tdiv_neg u
      by_cases hlast : 0 < (u : Int) % 10
      · have kc : ∀ W : World, (convert 83 9 (.slice (some ⟨W.heap.size, 0, none⟩) 1 1)).run Tryd.prog (W.alloc (.cells #[.int .u8 (48 + (u : Int) % 10)] 5)) = .ok (.string ⟨#[UInt8.ofNat (48 + u % 10)]⟩) (W.alloc (.cells #[.int .u8 (48 + (u : Int) % 10)] 5)) := fun W => by
          have h := conv_byte (P := Tryd.prog) Tryd.underlying83 Tryd.underlying5 Tryd.underlying9 W (48 + u % 10) (by omega)
          have e : ((48 + u % 10 : Nat) : Int) = 48 + (u : Int) % 10 := by omega
          rw [e] at h
          exact h
        go_wp2
        go_roundw
        case rel => exact ⟨u / 10, UInt8.ofNat (48 + u % 10) :: l, by omega, by go_num, bytes_next _ _, by rw [← Hd.out, Hnx.out]; simp, hb.alloc hb.size _⟩
        case measure => simp [intOf]; omega
      · have kc : ∀ W : World, (convert 83 9 (.slice (some ⟨W.heap.size, 0, none⟩) 1 1)).run Tryd.prog (W.alloc (.cells #[.int .u8 (48 + -((u : Int) % 10))] 5)) = .ok (.string ⟨#[UInt8.ofNat (48 + u % 10)]⟩) (W.alloc (.cells #[.int .u8 (48 + -((u : Int) % 10))] 5)) := fun W => by
          have h := conv_byte (P := Tryd.prog) Tryd.underlying83 Tryd.underlying5 Tryd.underlying9 W (48 + u % 10) (by omega)
          have e : ((48 + u % 10 : Nat) : Int) = 48 + -((u : Int) % 10) := by omega
          rw [e] at h
          exact h
        go_wp2
        go_roundw
        case rel => exact ⟨u / 10, UInt8.ofNat (48 + u % 10) :: l, by omega, by go_num, bytes_next _ _, by rw [← Hd.out, Hnx.out]; simp, hb.alloc hb.size _⟩
        case measure => simp [intOf]; omega
    · have hu0 : u = 0 := by omega
      subst hu0
      have Hd := Lib.hid hd
      clear hd
      have hlen : 1 + l.length ≤ 9223372036854775807 := by
        have h := congrArg List.length Hd.out
        rw [digs_zero, List.nil_append, digs_next h0, List.length_append, List.length_singleton] at h
        have h2 := digs_length (N / 10) (N / 10) (Nat.le_refl _)
        omega
      have hfin : 45 :: l = Lib.itoa (-(N : Int)) := by
        have h := Hd.out
        rw [digs_zero, List.nil_append, digs_pos h0] at h
        rw [h, Lib.itoa, if_pos (by omega), Int.natAbs_neg, Int.natAbs_natCast]
      have Hfin := Lib.hid hfin
      clear hfin
      go_wp2
      go_ret
      exact ⟨by rw [← Hfin.out, ← bytes_cons]; rfl, hb⟩

theorem specFormat (n : Int) (h0 : -9223372036854775808 ≤ n) (h1 : n ≤ 9223372036854775807) (w : World) :
    Calls Tryd.prog 64 #[.int .i64 n] w (NumeralEnd n w) := by
  rcases Int.lt_trichotomy n 0 with h | h | h
  · obtain ⟨N, rfl⟩ : ∃ N : Nat, n = -(N : Int) := ⟨n.natAbs, by omega⟩
    exact specFormat_neg N (by omega) (by omega) w
  · subst h
    exact specFormat_zero w
  · obtain ⟨N, rfl⟩ : ∃ N : Nat, n = (N : Int) := ⟨n.natAbs, by omega⟩
    exact specFormat_pos N (by omega) (by omega) w
end Go.Proofs.YtplchhahjmoodaaDoor
