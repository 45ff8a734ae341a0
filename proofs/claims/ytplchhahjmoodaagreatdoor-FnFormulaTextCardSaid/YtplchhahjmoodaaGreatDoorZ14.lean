/-
  The model's SizeOf and DepthOf.
-/
import Derived.Test.YtplchhahjmoodaaGreatDoorZ09
namespace Go.Proofs.YtplchhahjmoodaaGreatDoor
open Go Go.RowKit

theorem specMax (a b : Int) (w : World) : Calls Tryz.prog 121 #[.int .i64 a, .int .i64 b] w fun e w' => e = .returned (.int .i64 (max a b)) ∧ w' = w := by
  by_cases h : b < a
  · have hm : max a b = a := by omega
    rw [hm]
    clear hm
    go_enter Tryz.func121, Tryz.ntmps121
    go_wp2_with fail
    go_ret
    exact ⟨rfl, rfl⟩
  · have hm : max a b = b := by omega
    rw [hm]
    clear hm
    go_enter Tryz.func121, Tryz.ntmps121
    go_wp2_with fail
    go_ret
    exact ⟨rfl, rfl⟩

set_option maxHeartbeats 800000 in
theorem specDepthOf : ∀ x : Ft, ∀ (w : World), x.er.size ≤ 1099511627776 → x.In w w.heap.size → Calls Tryz.prog 84 #[x.val] w (GaveB (.int .i64 x.er.depth) w) := by
  apply Ft.ind
  intro x ih w hs hin
  have hz := x.size_er
  have hlen : x.args.length ≤ 1099511627776 := by
    have := Fm.length_sizes (x.args.map Ft.er)
    rw [List.length_map] at this
    omega
  have hsz : ∀ y ∈ x.args, y.er.size ≤ 1099511627776 := fun y hy => by
    have := Fm.size_mem (x.args.map Ft.er) y.er (List.mem_map.2 ⟨y, hy, rfl⟩)
    omega
  have hsum : Fm.depths (x.args.map Ft.er) ≤ 1099511627776 := by
    have := Fm.depths_le_sizes (x.args.map Ft.er)
    omega
  have HSUM := Lib.hid hsum
  have IH := Lib.hid (fun (k : Nat) (hk : k < x.args.length) (W : World) (hb : Below w.heap.size w W) => ih x.args[k] (List.getElem_mem hk) W (hsz _ (List.getElem_mem hk)) ((hin.part (List.getElem_mem hk)).to hb))
  have HROW := Lib.hid hin.row
  have HZ := Lib.hid x.depth_er
  clear ih hin hsz hz hs hsum
  rw [HZ.out]
  go_enter Tryz.func84, Tryz.ntmps84
  go_wp2_with fail
  go_loopw [3, 4] (fun n i wr => ∃ k : Nat, k ≤ x.args.length ∧ i = .int .i64 k ∧ n = .int .i64 ((Fm.depths ((x.args.take k).map Ft.er) : Nat) : Int) ∧ Below (w.heap.size + 1) (w.alloc (.cells #[.int .i64 x.kd, .int .i64 x.k, .int .i64 x.u, .int .i64 x.v, .slice x.a x.args.length x.cap] 27)) wr) (fun _ i _ => x.args.length - (intOf i).toNat)
  case atStart => exact ⟨0, Nat.zero_le _, rfl, rfl, Below.refl _ _⟩
  case round =>
    obtain ⟨k, hk, rfl, rfl, hb0⟩ := hrel
    have hb : Below w.heap.size w wr := ((Below.refl _ _).alloc (Nat.le_refl _) _).trans (hb0.mono (Nat.le_succ _))
    have e4 : wr.cell? ⟨w.heap.size, 4, none⟩ = some (.slice x.a x.args.length x.cap) := by
      rw [hb0.cell (p := ⟨w.heap.size, 4, none⟩) (Nat.lt_succ_self _)]
      simp [go_sem]
    have hs1 : w.heap.size + 1 ≤ wr.heap.size := by have := hb0.size; simpa using this
    by_cases hlt : k < x.args.length
    · obtain ⟨b, o, ha, hbW, hE0⟩ := HROW.out.node k hlt
      obtain ⟨c0, c1, c2, c3, c4⟩ := hE0.below hb hbW
      rw [ha] at e4
      have HI := Lib.hid (IH.out k hlt)
      have HNX := Lib.hid (Ft.depths_take x.args k hlt)
      generalize x.args[k] = y at *
      have HHA := Lib.hid ha
      clear hE0 ha
      obtain ⟨m, hm⟩ : ∃ m, Fm.depths ((x.args.take k).map Ft.er) = m := ⟨_, rfl⟩
      rw [hm] at HNX ⊢
      clear hm
      go_wp2_with fail
      refine (HI.out _ hb).mono ?_
      rintro e w1 ⟨rfl, hb1⟩
      have hB := hb0.trans (hb1.mono hs1)
      go_wp2_with fail
      refine (specMax _ _ _).mono ?_
      rintro e w2 ⟨rfl, rfl⟩
      obtain ⟨q, hq⟩ : ∃ q : Nat, max (m : Int) (y.er.depth : Int) = (q : Int) := ⟨max m y.er.depth, by omega⟩
      rw [hq]
      have HQ := Lib.hid hq
      clear hq
      go_wp2_with fail
      go_roundw
      case rel => exact ⟨k + 1, by omega, by go_num, by rw [HNX.out]; congr 1; have := HQ.out; omega, hB⟩
      case measure => simp [intOf]; omega
    · obtain rfl : k = x.args.length := by omega
      have hm0 := HSUM.out
      rw [List.take_length]
      generalize Fm.depths (x.args.map Ft.er) = m at *
      go_wp2_with fail
      go_ret
      exact ⟨by go_num, hb⟩
end Go.Proofs.YtplchhahjmoodaaGreatDoor
