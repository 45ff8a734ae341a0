/-
  The program's IsName, IndexOf, AreVars, Positions: what each returns.
-/
import Derived.Test.YtnakpbagaopelaaDoorSpecNames
import Derived.Laws.RangeAny
namespace Go.Proofs.YtnakpbagaopelaaDoor
open Go Go.RowKit

set_option maxHeartbeats 400000 in
theorem implIsName (s : ByteArray) (w : World) (hs : s.size ≤ maxLen) : Calls Tryd.prog 28 #[.string s] w fun e w' => e = .returned (.bool (goodName s)) ∧ Below w.heap.size w w' := by
  unfold maxLen at hs
  go_enter Tryd.func28, Tryd.ntmps28
  go_wp2
  go_loopw [3] (fun _ wr => ∃ k : Nat, k ≤ s.size ∧ k ≤ 2 ∧ wr = w.iter s k ∧ ∀ j (h : j < s.size), j < k → 97 ≤ (s[j]'h).toNat ∧ (s[j]'h).toNat ≤ 122) (fun _ wr => s.size - wr.iterPos w.heap.size)
  case atStart => exact ⟨0, Nat.zero_le _, by omega, rfl, fun j _ h => by omega⟩
  case round =>
    obtain ⟨k, hk, hk2, rfl, hall⟩ := hrel
    have Hall := Lib.hid hall
    clear hall
    by_cases hlt : k < s.size
    · by_cases hlow : (s[k]'hlt).toNat < 128
      · have hnx : ∀ ty, (Instr.next (.pointer (some ⟨w.heap.size, 0, none⟩)) true ty).run Tryd.prog (w.iter s k) = _ := fun ty => run_next_ascii w s k ty hlt hlow
        by_cases htwo : k = 2
        · subst htwo
          have hbad : goodName s = false := name_long hlt
          have Hbad := Lib.hid hbad
          clear hbad
          go_wp2
          go_ret
          rw [Hbad.out]
          exact ⟨rfl, (Below.refl _ _).alloc (Nat.le_refl _) _⟩
        · have htwo' : ((k : Int) == 2) = false := by simp; omega
          by_cases hlo : ((s[k]'hlt).toNat : Int) < 97
          · have hbad : goodName s = false := name_bad hlt (.inl (by omega))
            have Hbad := Lib.hid hbad
            clear hbad
            go_wp2
            go_ret
            rw [Hbad.out]
            exact ⟨rfl, (Below.refl _ _).alloc (Nat.le_refl _) _⟩
          · by_cases hhi : 122 < ((s[k]'hlt).toNat : Int)
            · have hbad : goodName s = false := name_bad hlt (.inr (by omega))
              have Hbad := Lib.hid hbad
              clear hbad
              go_wp2
              go_ret
              rw [Hbad.out]
              exact ⟨rfl, (Below.refl _ _).alloc (Nat.le_refl _) _⟩
            · go_wp2
              go_roundw
              case rel =>
                refine ⟨k + 1, by omega, by omega, rfl, fun j h hj => ?_⟩
                by_cases hjk : j = k
                · subst hjk
                  omega
                · exact Hall.out j h (by omega)
              case measure => simp; omega
      · have hnx : ∀ ty, (Instr.next (.pointer (some ⟨w.heap.size, 0, none⟩)) true ty).run Tryd.prog (w.iter s k) = _ := fun ty => run_next_any w s k ty hlt
        have hhigh := (decode_high s k hlt (by omega)).1
        have hbad : goodName s = false := name_bad hlt (.inr (by omega))
        have Hbad := Lib.hid hbad
        clear hbad
        generalize Utf8.decode s k = dc at *
        have hlo : ¬ (dc.1 : Int) < 97 := by omega
        have hhi : 122 < (dc.1 : Int) := by omega
        by_cases htwo : k = 2
        · subst htwo
          go_wp2
          go_ret
          rw [Hbad.out]
          exact ⟨rfl, (Below.refl _ _).alloc (Nat.le_refl _) _⟩
        · have htwo' : ((k : Int) == 2) = false := by simp; omega
          go_wp2
          go_ret
          rw [Hbad.out]
          exact ⟨rfl, (Below.refl _ _).alloc (Nat.le_refl _) _⟩
    · have hnx : ∀ ty, (Instr.next (.pointer (some ⟨w.heap.size, 0, none⟩)) true ty).run Tryd.prog (w.iter s k) = _ := fun ty => run_next_end w s k ty hlt
      have hgood : goodName s = decide (1 ≤ s.size ∧ s.size ≤ 2) := name_whole fun j h => Hall.out j h (by omega)
      have Hgood := Lib.hid hgood
      clear hgood
      by_cases h0 : s = ⟨#[]⟩
      · subst h0
        go_wp2
        go_ret
        rw [Hgood.out]
        exact ⟨rfl, (Below.refl _ _).alloc (Nat.le_refl _) _⟩
      · have hsz : 1 ≤ s.size := by
          rcases Nat.eq_zero_or_pos s.size with h | h
          · exact absurd (ByteArray.size_eq_zero_iff.1 h) h0
          · exact h
        have hne : s.toList.isEmpty = false := by
          rw [ByteArray.toList_eq]
          simpa using (fun h => by simp [ByteArray.size, h] at hsz)
        go_wp2
        go_ret
        rw [Hgood.out, decide_eq_true ⟨hsz, by omega⟩]
        exact ⟨rfl, (Below.refl _ _).alloc (Nat.le_refl _) _⟩

end Go.Proofs.YtnakpbagaopelaaDoor
