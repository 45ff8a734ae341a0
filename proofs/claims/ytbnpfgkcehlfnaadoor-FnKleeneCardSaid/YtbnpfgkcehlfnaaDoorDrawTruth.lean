/-
  The draws of chapter 3: two numbers, each from -1 to 3.
-/
import Derived.Test.YtbnpfgkcehlfnaaDoorDrawPickInt
namespace Go.Proofs.YtbnpfgkcehlfnaaDoor
open Go Go.RowKit

def drawnTruths : List Int := [0, 1, 2, 0, 1, 2, 3, -1]
theorem drawnTruths_in : ∀ n ∈ drawnTruths, -1 ≤ n ∧ n ≤ 3 := by
  intro n hn
  simp only [drawnTruths, List.mem_cons, List.not_mem_nil, or_false] at hn
  omega
def TruthEnd (g : Nat) (w : World) (e : Ending) (w' : World) : Prop := ∃ n : Int, -1 ≤ n ∧ n ≤ 3 ∧ e = .returned (.int .i64 n) ∧ Cur w' g ∧ w.grownBy w' (some g)
set_option maxRecDepth 100000 in
set_option maxHeartbeats 800000 in
theorem drawTruth (g : Nat) (w : World) (hcur : Cur w g) : Calls Tryd.prog 32 #[.pointer (some ⟨g, 0, none⟩)] w (TruthEnd g w) := by
  have hg1 := hcur.lt
  go_enter Tryd.func32, Tryd.ntmps32
  go_wp2_with fail
  refine (drawPickInt g 8 _ drawnTruths _ (by decide) (by decide) (hcur.alloc _) (show Beside _ g _ (intVals drawnTruths) from beside_new _ hg1)).mono ?_
  rintro e w2 ⟨v, hv, rfl, hc2, hw2⟩
  obtain ⟨n, hn, rfl⟩ := List.mem_map.1 hv
  have hnb := drawnTruths_in n hn
  clear hv hn
  go_wp2
  go_ret
  exact ⟨n, hnb.1, hnb.2, rfl, hc2, only_then (only_alloc (only_same _ _) _) hw2⟩

def TwoEnd (w : World) (e : Ending) (w' : World) : Prop := ∃ a b : Int, -1 ≤ a ∧ a ≤ 3 ∧ -1 ≤ b ∧ b ≤ 3 ∧ e = .returned (.tuple #[.int .i64 a, .int .i64 b]) ∧ Below w.heap.size w w'
set_option maxRecDepth 100000 in
set_option maxHeartbeats 800000 in
theorem drawTwo (a : Option Addr) (n cap : Nat) (w : World) (hn : n ≤ 1099511627776) (hcode : Code8 w w.heap.size n a) : Calls Tryd.prog 26 #[.slice a n cap] w (TwoEnd w) := by
  go_enter Tryd.func26, Tryd.ntmps26
  go_wp2_with fail
  refine (drawNew a n cap _ hn hcode).mono ?_
  rintro e w1 ⟨g, rfl, hg, hc1, hb1⟩
  go_wp2_with fail
  refine (drawTruth g _ hc1).mono ?_
  rintro e w2 ⟨x, x0, x1, rfl, hc2, hw2⟩
  go_wp2_with fail
  refine (drawTruth g _ hc2).mono ?_
  rintro e w3 ⟨y, y0, y1, rfl, hc3, hw3⟩
  go_wp2
  go_ret2
  exact ⟨x, y, x0, x1, y0, y1, rfl, below_only hb1 (only_then hw2 hw3) hb1.size hg⟩

theorem drawAndOf (a : Option Addr) (n cap : Nat) (w : World) (hn : n ≤ 1099511627776) (hcode : Code8 w w.heap.size n a) : Calls Tryd.prog 10 #[.slice a n cap] w (TwoEnd w) := by
  go_enter Tryd.func10, Tryd.ntmps10
  go_wp2_with fail
  refine (drawTwo a n cap _ hn hcode).mono ?_
  rintro e w1 ⟨x, y, x0, x1, y0, y1, rfl, hb1⟩
  go_wp2
  go_ret2
  exact ⟨x, y, x0, x1, y0, y1, rfl, hb1⟩

theorem drawIsWithin (a : Option Addr) (n cap : Nat) (w : World) (hn : n ≤ 1099511627776) (hcode : Code8 w w.heap.size n a) : Calls Tryd.prog 11 #[.slice a n cap] w (TwoEnd w) := by
  go_enter Tryd.func11, Tryd.ntmps11
  go_wp2_with fail
  refine (drawTwo a n cap _ hn hcode).mono ?_
  rintro e w1 ⟨x, y, x0, x1, y0, y1, rfl, hb1⟩
  go_wp2
  go_ret2
  exact ⟨x, y, x0, x1, y0, y1, rfl, hb1⟩
end Go.Proofs.YtbnpfgkcehlfnaaDoor
