/-
  The law's size guard over an edge, a row of edges, a program: what it lets through is small.
-/
import Derived.Test.YtabedmjaodinbaaDoorSzStrs
import Derived.Test.YtabedmjaodinbaaDoorEdges
import Derived.Test.YtabedmjaodinbaaDoorStmt
namespace Go.Proofs.YtabedmjaodinbaaDoor
open Go Go.RowKit

def SzEdgeEnd (x : Ed) (left : Nat) (w : World) (e : Ending) (w' : World) : Prop :=
  ∃ r : Int, e = .returned (.int .i64 r) ∧ Below w.heap.size w w' ∧ r ≤ left ∧ (0 ≤ r → ((x.a.size + x.b.size : Nat) : Int) + r = left)
set_option maxHeartbeats 400000 in
theorem szEdge (x : Ed) (left : Nat) (w : World) (hl : left ≤ 1099511627776) (hx : x.Ok) : Calls Tryd.prog 30 #[edV x.f x.t x.k x.a x.b, .int .i64 left] w (SzEdgeEnd x left w) := by
  obtain ⟨f, t, k, a, b⟩ := x
  go_enter Tryd.func30, Tryd.ntmps30
  go_wp2_with fail
  refine (szStmt k a b left _ hl hx.a hx.b).mono ?_
  rintro e w1 ⟨r, rfl, hb1, hr, hok⟩
  have hB : Below w.heap.size w w1 := ((Below.refl _ _).alloc (Nat.le_refl _) _).trans (hb1.mono (by simp))
  by_cases hneg : r < 0
  · go_wp2
    go_ret
    exact ⟨-1, rfl, hB, by omega, fun h => by omega⟩
  · go_wp2
    go_ret
    exact ⟨r, rfl, hB, hr, fun h => by have := hok h; simp; omega⟩

/-- The guard's answer over a row of edges: an int; where it is not negative, their names and their number fit into the allowance. -/
def SzEdgesEnd (es : List Ed) (left : Nat) (w : World) (e : Ending) (w' : World) : Prop :=
  ∃ r : Int, e = .returned (.int .i64 r) ∧ Below w.heap.size w w' ∧ r ≤ left ∧ (0 ≤ r → (es.length : Int) + edTotal es + r = left)

set_option maxHeartbeats 800000 in
theorem szEdges (a : Option Addr) (cap : Nat) (es : List Ed) (left : Nat) (w : World) (hl : left ≤ 1099511627776) (hlen : es.length ≤ maxLen) (hws : ∀ x ∈ es, x.Ok) (hrow : Row w w.heap.size a (edVals es)) :
    Calls Tryd.prog 13 #[.slice a es.length cap, .int .i64 left] w (SzEdgesEnd es left w) := by
  unfold maxLen at hlen
  by_cases h0 : left < es.length
  · have hb : (left : Int) - es.length < 0 := by omega
    go_enter Tryd.func13, Tryd.ntmps13
    go_wp2
    go_ret
    exact ⟨-1, rfl, Below.refl _ _, by omega, fun h => by omega⟩
  · have hb : ¬ (left : Int) - es.length < 0 := by omega
    go_enter Tryd.func13, Tryd.ntmps13
    go_wp2
    go_loopw [1, 5] (fun l i wr => ∃ k m : Nat, k ≤ es.length ∧ i = .int .i64 k ∧ l = .int .i64 m ∧ es.length + edTotal (es.take k) + m = left ∧ Below w.heap.size w wr) (fun _ i _ => es.length - (intOf i).toNat)
    case atStart => exact ⟨0, left - es.length, Nat.zero_le _, rfl, by congr 1; omega, by simp [edTotal]; omega, Below.refl _ _⟩
    case round =>
      obtain ⟨k, m, hk, rfl, rfl, hsum, hb⟩ := hrel
      by_cases hlt : k < es.length
      · obtain ⟨b, o, rfl, hbW, hE0⟩ := hrow.edge k hlt
        obtain ⟨c0, c1, c2, c3, c4⟩ := hE0.below hb hbW
        have hok := hws es[k] (List.getElem_mem hlt)
        have hnx := edTotal_next es k hlt
        generalize es[k] = x at *
        have Hsum := Lib.hid hsum
        have Hnx := Lib.hid hnx
        have hm : m ≤ 1099511627776 := by omega
        clear hsum hnx hE0
        go_wp2_with fail
        refine (szEdge x m _ hm hok).mono ?_
        rintro e w1 ⟨r, rfl, hb1, hr, hsz⟩
        have hB := hb.trans (hb1.mono hb.size)
        have Hsz := Lib.hid hsz
        clear hsz c0 c1 c2 c3 c4
        by_cases hneg : r < 0
        · go_wp2
          go_ret
          exact ⟨-1, rfl, hB, by omega, fun h => by omega⟩
        · obtain ⟨r', rfl⟩ : ∃ r' : Nat, r = (r' : Int) := ⟨r.toNat, by omega⟩
          go_wp2
          go_roundw
          case rel =>
            have h1 := Hsum.out
            have h2 := Hnx.out
            have h3 := Hsz.out (by omega)
            exact ⟨k + 1, r', by omega, by go_num, rfl, by omega, hB⟩
          case measure => simp [intOf]; omega
      · have hk' : k = es.length := by omega
        have Hk := Lib.hid hk'
        have Hsum := Lib.hid hsum
        clear hk' hsum
        go_wp2
        go_ret
        have h1 := Hsum.out
        rw [Hk.out, List.take_length] at h1
        exact ⟨m, rfl, hb, by omega, fun _ => by omega⟩

abbrev prV (a : Option Addr) (n cap : Nat) (p : Int) (b : Option Addr) (m capb : Nat) : Value := .agg #[.slice a n cap, .int .i64 p, .slice b m capb]
def SzProgEnd (ss : List ByteArray) (es : List Ed) (left : Nat) (w : World) (e : Ending) (w' : World) : Prop :=
  ∃ r : Int, e = .returned (.int .i64 r) ∧ Below w.heap.size w w' ∧ r ≤ left ∧ (0 ≤ r → (ss.length + total ss + es.length + edTotal es : Int) + r = left)
set_option maxHeartbeats 800000 in
theorem szProgram (a : Option Addr) (cap : Nat) (ss : List ByteArray) (p : Int) (b : Option Addr) (capb : Nat) (es : List Ed) (left : Nat) (w : World) (hl : left ≤ 1099511627776) (hss : ss.length ≤ maxLen ∧ (∀ s ∈ ss, s.size ≤ maxLen) ∧ Row w w.heap.size a (strVals ss))
    (hes : es.length ≤ maxLen ∧ (∀ x ∈ es, x.Ok) ∧ Row w w.heap.size b (edVals es)) :
    Calls Tryd.prog 5 #[prV a ss.length cap p b es.length capb, .int .i64 left] w (SzProgEnd ss es left w) := by
  have hb0 : ∀ t, Below w.heap.size w (w.alloc (.cells #[.slice a ss.length cap, .int .i64 p, .slice b es.length capb] t)) := fun t => (Below.refl _ _).alloc (Nat.le_refl _) _
  go_enter Tryd.func5, Tryd.ntmps5
  go_wp2_with fail
  refine (szStrs a cap ss left _ hl hss.1 hss.2.1 ((hss.2.2.below (hb0 _)).grow (hb0 _).size)).mono ?_
  rintro e w1 ⟨r, rfl, rfl, hr, hok⟩
  by_cases hneg : r < 0
  · go_wp2
    go_ret
    exact ⟨-1, rfl, hb0 _, by omega, fun h => by omega⟩
  · obtain ⟨r', rfl⟩ : ∃ r' : Nat, r = (r' : Int) := ⟨r.toNat, by omega⟩
    have Hok := Lib.hid (hok (by omega))
    clear hok
    go_wp2_with fail
    refine (szEdges b capb es r' _ (by omega) hes.1 hes.2.1 ((hes.2.2.below (hb0 _)).grow (hb0 _).size)).mono ?_
    rintro e w1 ⟨r2, rfl, hb1, hr2, hok2⟩
    have hB := (hb0 _).trans (hb1.mono (hb0 _).size)
    have Hok2 := Lib.hid hok2
    clear hok2
    by_cases hneg2 : r2 < 0
    · go_wp2
      go_ret
      exact ⟨-1, rfl, hB, by omega, fun h => by omega⟩
    · go_wp2
      go_ret
      have h1 := Hok.out
      exact ⟨r2, rfl, hB, by omega, fun h => by have h2 := Hok2.out h; omega⟩
end Go.Proofs.YtabedmjaodinbaaDoor
