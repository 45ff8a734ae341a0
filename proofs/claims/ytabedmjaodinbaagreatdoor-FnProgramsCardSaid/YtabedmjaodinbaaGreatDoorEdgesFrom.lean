/-
  The edges that begin at a point, by the program and by the model: their numbers in order.
-/
import Derived.Test.YtabedmjaodinbaaGreatDoorEdges
import Derived.Test.YtabedmjaodinbaaGreatDoorNums
import Derived.Test.YtabedmjaodinbaaGreatDoorNames
import Derived.Test.YtabedmjaodinbaaGreatDoorImplNames
namespace Go.Proofs.YtabedmjaodinbaaGreatDoor
open Go Go.RowKit

def fromsOf (es : List Ed) : List Int := es.map Ed.f
theorem fromsOf_length (es : List Ed) : (fromsOf es).length = es.length := by simp [fromsOf]
theorem fromsOf_at (es : List Ed) (k : Nat) (h : k < es.length) (h' : k < (fromsOf es).length) : (fromsOf es)[k] = es[k].f := by simp [fromsOf]
theorem fromsOf_take (es : List Ed) (k : Nat) (h : k < es.length) : fromsOf (es.take (k + 1)) = fromsOf (es.take k) ++ [es[k].f] := by
  unfold fromsOf
  rw [take_next es k h, List.map_append, List.map_cons, List.map_nil]
theorem oneCell_is {w : World} {e : TypeId} {N : Nat} (hN : N = w.heap.size) (x : Value) : ∀ (j : Nat) (u : Value), [x][j]? = some u → (w.alloc (.cells #[x] e)).cell? ((⟨N, 0, none⟩ : Addr).add j) = some u := by
  subst hN
  exact oneCell_at x
theorem own_form {w : World} {base e size n : Nat} {v : Value} {xs : List Value} (h : w.ownsRow base e size v n xs) : ∃ a c, v = .slice a n c := by
  rcases h.2 with ⟨rfl, rfl⟩ | ⟨g, cap, cur, rfl, _⟩
  · exact ⟨_, _, rfl⟩
  · exact ⟨_, _, rfl⟩
theorem intInfoE : (Tryz.prog.info? 3).map (fun i => (i.zero, i.size, i.bytes)) = some (some (.int .i64 0), 1, 8) := by kernel_rfl

set_option maxRecDepth 100000 in
set_option maxHeartbeats 1600000 in
theorem implEdgesFrom (a b : Option Addr) (na ca cb : Nat) (es : List Ed) (p n : Int) (w : World) (hlen : es.length ≤ 1048576) (hrow : Row w w.heap.size b (edVals es)) :
    Calls Tryz.prog 16 #[.agg #[.slice a na ca, .int .i64 p, .slice b es.length cb], .int .i64 n] w (Built w.heap.size 3 (intVals (posFrom n 0 (fromsOf es))) w) := by
  obtain ⟨i0, hi, hz0, hz1, hz2⟩ := info_parts intInfoE
  go_enter Tryz.func16, Tryz.ntmps16
  go_wp2
  go_loopw [5, 11] (fun v i wr => ∃ k : Nat, k ≤ es.length ∧ i = .int .i64 k ∧ wr.ownsRow w.heap.size 3 1 v k (intVals (fromsOf (es.take k))) ∧ Below w.heap.size w wr)
    (fun _ i _ => es.length - (intOf i).toNat)
  case atStart => exact ⟨0, Nat.zero_le _, rfl, ⟨rfl, .inl ⟨rfl, rfl⟩⟩, (Below.refl _ _).alloc (Nat.le_refl _) _⟩
  case round =>
    obtain ⟨k, hk, rfl, hown, hbw⟩ := hrel
    have Hown := Lib.hid hown
    clear hown
    by_cases hlt : k < es.length
    · obtain ⟨b0, o, rfl, hbW, hE0⟩ := hrow.edge k hlt
      obtain ⟨c0, c1, c2, c3, c4⟩ := hE0.below hbw hbW
      have htk := fromsOf_take es k hlt
      generalize es[k] = x at *
      have Htk := Lib.hid htk
      have hsz := hbw.size
      clear hE0 htk
      go_wp2_with (at_builtin; refine wpList_append_own _ rfl (.tmp 15) (.tmp 18) 37 rfl w.heap.size 3 i0 (.int .i64 0) 1 8 Tryz.underlying37 hi hz0 hz1 hz2 rfl (by decide) _ k _ rfl ((Hown.out.alloc _).alloc _) ⟨wr.heap.size + 1, 0, none⟩ 1 1 [.int .i64 x.f] rfl rfl (oneCell_is (by simp) _) (oneCell_int _) (by unfold maxLen; omega) (by omega) (by simp; omega) ?_; intro v2 w2 hown2 hg2 _; have hb2 := own_below ((Hown.out.alloc _).alloc _) hg2 (by simp; omega) ((hbw.alloc hbw.size _).alloc (by simp; omega) _); clear hg2)
      go_roundw
      case rel => exact ⟨k + 1, by omega, by go_num, by rw [Htk.out, intVals_snoc]; exact hown2, hb2⟩
      case measure => simp [intOf]; omega
    · have hk' : k = es.length := by omega
      subst hk'
      rw [List.take_length] at Hown
      obtain ⟨a2, c2, rfl⟩ := own_form Hown.out
      have hR := Row.owned Hown.out
      go_wp2_with fail
      rw [← fromsOf_length es]
      refine (implPositions a2 c2 (fromsOf es) n _ (by rw [fromsOf_length]; exact hlen) (by simpa using hR)).mono ?_
      rintro e w2 ⟨ag, cg, rfl, hcg, hg, hb2⟩
      have hb := hbw.trans (hb2.mono hbw.size)
      go_wp2
      go_ret
      exact ⟨ag, cg, rfl, hcg, own_base hg hbw.size, hb⟩

set_option maxRecDepth 100000 in
set_option maxHeartbeats 1600000 in
theorem specEdgesFrom (a b : Option Addr) (na ca cb : Nat) (es : List Ed) (p n : Int) (w : World) (hlen : es.length ≤ 1048576) (hrow : Row w w.heap.size b (edVals es)) :
    Calls Tryz.prog 19 #[.agg #[.slice a na ca, .int .i64 p, .slice b es.length cb], .int .i64 n] w (Built w.heap.size 3 (intVals (posFrom n 0 (fromsOf es))) w) := by
  obtain ⟨i0, hi, hz0, hz1, hz2⟩ := info_parts intInfoE
  go_enter Tryz.func19, Tryz.ntmps19
  go_wp2
  obtain ⟨W0, hW0, hb0, hs0, hA0⟩ := one_box w (.slice a na ca) (.int .i64 p) (.slice b es.length cb) 27
  rw [hW0]
  go_loopw [5, 6] (fun v i wr => ∃ (k : Nat) (qs : List Int), k ≤ es.length ∧ i = .int .i64 k ∧ qs.length ≤ k ∧ qs ++ posFrom n k ((fromsOf es).drop k) = posFrom n 0 (fromsOf es) ∧ wr.ownsRow W0.heap.size 3 1 v qs.length (intVals qs) ∧ Below W0.heap.size W0 wr)
    (fun _ i _ => es.length - (intOf i).toNat)
  case atStart => exact ⟨0, [], Nat.zero_le _, rfl, Nat.le_refl _, rfl, (by simpa [← hW0, intVals] using World.ownsRow_made (e := 3) (size := 1) W0 #[] 0 (Nat.le_refl _) (Nat.zero_le _) rfl), (Below.refl _ _).alloc (Nat.le_refl _) _⟩
  case round =>
    obtain ⟨k, qs, hk, rfl, hql, hq, hown, hbw⟩ := hrel
    have Hown := Lib.hid hown
    clear hown
    obtain ⟨d0, d1, d2⟩ := hA0.keep hs0 hbw
    have hsz := hbw.size
    have hbw' : Below w.heap.size w wr := hb0.trans (hbw.mono hb0.size)
    by_cases hlt : k < es.length
    · obtain ⟨b0, o, rfl, hbW, hE0⟩ := hrow.edge k hlt
      obtain ⟨c0, _, _, _, _⟩ := hE0.below hbw' hbW
      have hlt' : k < (fromsOf es).length := by rw [fromsOf_length]; exact hlt
      have hat := fromsOf_at es k hlt hlt'
      by_cases he : (fromsOf es)[k] = n
      · rw [pos_hit hlt' he] at hq
        have Hq := Lib.hid hq
        rw [hat] at he
        have hd : (es[k].f == n) = true := by simpa using he
        generalize es[k] = x at *
        clear hq he hE0 hat
        go_wp2_with (at_builtin; refine wpList_append_own _ rfl (.tmp 23) (.tmp 25) 37 rfl W0.heap.size 3 i0 (.int .i64 0) 1 8 Tryz.underlying37 hi hz0 hz1 hz2 rfl (by decide) _ qs.length _ rfl (Hown.out.alloc _) ⟨wr.heap.size, 0, none⟩ 1 1 [.int .i64 (k : Int)] rfl rfl (oneCell_at _) (oneCell_int _) (by unfold maxLen; omega) (by omega) (by simp; omega) ?_; intro v2 w2 hown2 hg2 _; have hb2 := own_below (Hown.out.alloc _) hg2 (by simp; omega) (hbw.alloc hbw.size _); clear hg2)
        go_roundw
        case rel => exact ⟨k + 1, qs ++ [(k : Int)], by omega, by go_num, by simp; omega, by rw [← Hq.out]; simp, by rw [intVals_snoc, List.length_append, List.length_singleton]; exact hown2, hb2⟩
        case measure => simp [intOf]; omega
      · rw [pos_miss hlt' he] at hq
        have Hq := Lib.hid hq
        rw [hat] at he
        have hd : (es[k].f == n) = false := by simpa using he
        generalize es[k] = x at *
        clear hq he hE0 hat
        go_wp2
        go_roundw
        case rel => exact ⟨k + 1, qs, by omega, by go_num, by omega, Hq.out, Hown.out, hbw⟩
        case measure => simp [intOf]; omega
    · rw [pos_end (by rw [fromsOf_length]; omega), List.append_nil] at hq
      have Hq := Lib.hid hq
      clear hq
      go_wp2
      go_ret
      rw [← Hq.out]
      exact built_end (intVals_length _).symm (own_base Hown.out hb0.size) hbw'
end Go.Proofs.YtabedmjaodinbaaGreatDoor
