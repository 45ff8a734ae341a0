/-
  The law's marks: the text of mark k is the letter m and k's decimal digits.
-/
import Derived.Test.YtcgkaefacdblnaaDoorDigits
import Derived.Test.YtcgkaefacdblnaaDoorChecked
namespace Go.Proofs.YtcgkaefacdblnaaDoor
open Go Go.RowKit

def markS (k : Nat) : ByteArray := ⟨(109 :: Lib.decDigits k).toArray⟩
def MarkEnd (k : Nat) (w : World) (e : Ending) (w' : World) : Prop := e = .returned (.string (markS k)) ∧ Below w.heap.size w w'
theorem mark_next (k : Nat) (l : List UInt8) : Value.string ((⟨#[48 + UInt8.ofNat k]⟩ : ByteArray) ++ ⟨l.toArray⟩) = Value.string ⟨(UInt8.ofNat (48 + k) :: l).toArray⟩ := by
  rw [byte_split]
  exact congrArg Value.string (bytes_cons _ l)

set_option maxRecDepth 100000 in
set_option maxHeartbeats 400000 in
theorem markText_pos (N : Nat) (h0 : 0 < N) (h1 : N ≤ 1099511627776) (w : World) : Calls Tryd.prog 62 #[.int .i64 N] w (MarkEnd N w) := by
  go_enter Tryd.func62, Tryd.ntmps62
  go_wp2
  go_loopw [0, 3] (fun n out wr => ∃ (u : Nat) (l : List UInt8), u ≤ N ∧ n = .int .i64 u ∧ out = .string ⟨l.toArray⟩ ∧ digs u ++ l = digs N ∧ Below w.heap.size w wr) (fun n _ _ => (intOf n).toNat)
  case atStart => exact ⟨N, [], Nat.le_refl _, rfl, rfl, by simp, Below.refl _ _⟩
  case round =>
    obtain ⟨u, l, hu, rfl, rfl, hd, hb⟩ := hrel
    by_cases hlt : 0 < u
    · have hnx := digs_next hlt
      have hroom := digs_room hlt hd
      have hl : 1 + l.length ≤ 9223372036854775807 := by omega
      have Hd := Lib.hid hd
      have Hnx := Lib.hid hnx
      clear hd hnx hroom
      have kc : ∀ W : World, (convert 22 9 (.slice (some ⟨W.heap.size, 0, none⟩) 1 1)).run Tryd.prog (W.alloc (.cells #[.int .u8 (48 + (u : Int) % 10)] 5)) = .ok (.string ⟨#[UInt8.ofNat (48 + u % 10)]⟩) (W.alloc (.cells #[.int .u8 (48 + (u : Int) % 10)] 5)) := fun W => by
        have h := conv_byte (P := Tryd.prog) Tryd.underlying22 Tryd.underlying5 Tryd.underlying9 W (48 + u % 10) (by omega)
        have e : ((48 + u % 10 : Nat) : Int) = 48 + (u : Int) % 10 := by omega
        rw [e] at h
        exact h
      go_wp2
      go_roundw
      case rel => exact ⟨u / 10, UInt8.ofNat (48 + u % 10) :: l, by omega, by go_num, mark_next _ _, by rw [← Hd.out, Hnx.out]; simp, hb.alloc hb.size _⟩
      case measure => simp [intOf]; omega
    · have hu0 : u = 0 := by omega
      subst hu0
      have Hd := Lib.hid hd
      clear hd
      have hlen : 1 + l.length ≤ 9223372036854775807 := by
        have h := congrArg List.length Hd.out
        rw [digs_zero, List.nil_append, digs_next h0, List.length_append, List.length_singleton] at h
        have h2 := digs_length (N / 10) (N / 10) (Nat.le_refl _)
        omega
      have hfin : l = Lib.decDigits N := by
        have h := Hd.out
        rw [digs_zero, List.nil_append, digs_pos h0] at h
        exact h
      have Hfin := Lib.hid hfin
      clear hfin
      go_wp2
      go_ret
      exact ⟨by rw [markS, ← Hfin.out, ← bytes_cons]; rfl, hb⟩
theorem markText (N : Nat) (h1 : N ≤ 1099511627776) (w : World) : Calls Tryd.prog 62 #[.int .i64 N] w (MarkEnd N w) := by
  by_cases h0 : 0 < N
  · exact markText_pos N h0 h1 w
  · obtain rfl : N = 0 := by omega
    go_enter Tryd.func62, Tryd.ntmps62
    go_wp2
    go_ret
    exact ⟨by rw [markS, Lib.decDigits_one (by omega)]; rfl, Below.refl _ _⟩
end Go.Proofs.YtcgkaefacdblnaaDoor
