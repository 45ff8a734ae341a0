/-
  The law's size guard over a formula: what it lets through is small.
-/
import Derived.Test.YthhhmlohfhioeaaDoorTree
import Derived.Test.YthhhmlohfhioeaaDoorChecked
import Derived.Laws.ResultCell
namespace Go.Proofs.YthhhmlohfhioeaaDoor
open Go Go.RowKit

def SzTreeEnd (x : Ft) (left : Nat) (w : World) (e : Ending) (w' : World) : Prop :=
  ∃ r : Int, e = .returned (.int .i64 r) ∧ Below w.heap.size w w' ∧ r ≤ left ∧ (0 ≤ r → (x.er.size : Int) + r = left + 1)
def SzRowEnd (ts : List Ft) (left : Nat) (w : World) (e : Ending) (w' : World) : Prop :=
  ∃ r : Int, e = .returned (.int .i64 r) ∧ Below w.heap.size w w' ∧ r ≤ left ∧ (0 ≤ r → (Fm.sizes (ts.map Ft.er) : Int) + r = left)

set_option maxHeartbeats 800000 in
theorem szRow (a : Option Addr) (cap : Nat) (ts : List Ft) (left : Nat) (w : World) (hl : left ≤ 1099511627776) (hlen : ts.length ≤ maxLen) (hrow : Row w w.heap.size a (fmVals ts)) (hin : ∀ x ∈ ts, x.In w w.heap.size)
    (ih : ∀ x ∈ ts, ∀ (l : Nat) (W : World), l ≤ 1099511627776 → x.In W W.heap.size → Calls Tryd.prog 6 #[x.val, .int .i64 l] W (SzTreeEnd x l W)) :
    Calls Tryd.prog 18 #[.slice a ts.length cap, .int .i64 left] w (SzRowEnd ts left w) := by
  unfold maxLen at hlen
  have HIN := Lib.hid hin
  have IH := Lib.hid ih
  clear hin ih
  by_cases h0 : left < ts.length
  · have hb : (left : Int) - ts.length < 0 := by omega
    go_enter Tryd.func18, Tryd.ntmps18
    go_wp2_with fail
    go_ret
    exact ⟨-1, rfl, Below.refl _ _, by omega, fun h => by omega⟩
  · have hb : ¬ (left : Int) - ts.length < 0 := by omega
    go_enter Tryd.func18, Tryd.ntmps18
    go_wp2_with fail
    go_loopw [1, 5] (fun l i wr => ∃ k m : Nat, k ≤ ts.length ∧ i = .int .i64 k ∧ l = .int .i64 m ∧ m ≤ left ∧ (ts.length - k) + Fm.sizes ((ts.take k).map Ft.er) + m = left ∧ Below w.heap.size w wr) (fun _ i _ => ts.length - (intOf i).toNat)
    case atStart => exact ⟨0, left - ts.length, Nat.zero_le _, rfl, by congr 1; omega, by omega, by simp [Fm.sizes]; omega, Below.refl _ _⟩
    case round =>
      obtain ⟨k, m, hk, rfl, rfl, hm, hsum, hb⟩ := hrel
      by_cases hlt : k < ts.length
      · obtain ⟨b, o, rfl, hbW, hE0⟩ := hrow.node k hlt
        obtain ⟨c0, c1, c2, c3, c4⟩ := hE0.below hb hbW
        have hnx := Ft.sizes_take ts k hlt
        have hI := IH.out ts[k] (List.getElem_mem hlt)
        have hN := HIN.out ts[k] (List.getElem_mem hlt)
        generalize ts[k] = x at *
        have Hsum := Lib.hid hsum
        have Hnx := Lib.hid hnx
        have HN := Lib.hid (hN.to hb)
        have HI := Lib.hid hI
        have hm2 : m ≤ 1099511627776 := by omega
        have Hm := Lib.hid (And.intro hm hm2)
        clear hsum hnx hE0 hI hN hm hm2
        go_wp2_with fail
        refine (HI.out m _ Hm.out.2 HN.out).mono ?_
        rintro e w1 ⟨r, rfl, hb1, hr, hsz⟩
        have hB := hb.trans (hb1.mono hb.size)
        have Hsz := Lib.hid hsz
        clear hsz c0 c1 c2 c3 c4
        by_cases hneg : r < 0
        · go_wp2_with fail
          go_ret
          have := Hm.out.1
          exact ⟨-1, rfl, hB, by omega, fun h => by omega⟩
        · obtain ⟨r', rfl⟩ : ∃ r' : Nat, r = (r' : Int) := ⟨r.toNat, by omega⟩
          go_wp2_with fail
          go_roundw
          case rel =>
            have h1 := Hsz.out (by omega)
            have h2 := Hsum.out
            have h3 := Hnx.out
            have h4 := x.er.size_pos
            have h5 := Hm.out.1
            exact ⟨k + 1, r', by omega, by go_num, rfl, by omega, by omega, hB⟩
          case measure => simp [intOf]; omega
      · obtain rfl : k = ts.length := by omega
        have Hsum := Lib.hid hsum
        clear hsum
        go_wp2_with fail
        go_ret
        have h2 := Hsum.out
        rw [List.take_length] at h2
        exact ⟨m, rfl, hb, by omega, fun _ => by omega⟩

set_option maxHeartbeats 400000 in
theorem szTree : ∀ x : Ft, x.Short → ∀ (left : Nat) (w : World), left ≤ 1099511627776 → x.In w w.heap.size → Calls Tryd.prog 6 #[x.val, .int .i64 left] w (SzTreeEnd x left w) := by
  apply Ft.ind
  intro x ih hs left w hl hin
  have hs' := (Ft.short_iff x).1 hs
  have hz := x.size_er
  have HZ := Lib.hid hz
  have HR := Lib.hid (fun (W : World) (h : Below w.heap.size w W) => szRow x.a x.cap x.args left W hl hs'.1 ((hin.to h).row) (fun y hy => (hin.to h).part hy) (fun y hy => ih y hy (hs'.2 y hy)))
  clear hz ih hs hs' hin
  go_enter Tryd.func6, Tryd.ntmps6
  go_wp2_with fail
  refine (HR.out _ ((Below.refl _ _).alloc (Nat.le_refl _) _)).mono ?_
  rintro e w1 ⟨r, rfl, hb1, hr, hok⟩
  have hB : Below w.heap.size w w1 := ((Below.refl _ _).alloc (Nat.le_refl _) _).trans (hb1.mono (by simp))
  have HOK := Lib.hid hok
  clear hok
  by_cases hneg : r < 0
  · go_wp2_with fail
    go_ret
    exact ⟨-1, rfl, hB, by omega, fun h => by omega⟩
  · go_wp2_with fail
    go_ret
    exact ⟨r, rfl, hB, hr, fun h => by have := HOK.out h; have := HZ.out; omega⟩
end Go.Proofs.YthhhmlohfhioeaaDoor
