/-
  The law's own copy of a row of heaps, its size guard, its comparison.
-/
import Derived.Test.YtpmmjaceehlpiaaHeapRows
import Derived.Deep.RegionHeld3
namespace Go.Proofs.Ytpmmjaceehlpiaa
open Go Go.RowKit

theorem heapInfo : (Try.prog.info? 34).map (fun i => (i.zero, i.size, i.bytes)) = some (some (.agg #[.slice none 0 0, .slice none 0 0]), 2, 48) := by kernel_rfl

theorem set2_take (xs : List Value) (o : Nat) (u v : Value) (h : o + 2 ≤ xs.length) : ((xs.set o u).set (o + 1) v).take (o + 2) = xs.take o ++ [u, v] := by
  apply List.ext_getElem?
  intro j
  rcases Nat.lt_or_ge j o with hj | hj
  · rw [List.getElem?_append_left (by simp; omega), List.getElem?_take_of_lt (by omega), List.getElem?_take_of_lt hj]
    simp only [List.getElem?_set]
    rw [if_neg (by omega), if_neg (by omega)]
  · rw [List.getElem?_append_right (by simp; omega), List.length_take, Nat.min_eq_left (by omega)]
    rcases Nat.lt_or_ge j (o + 2) with hj5 | hj5
    · obtain ⟨i, rfl, hi⟩ : ∃ i, j = o + i ∧ i < 2 := ⟨j - o, by omega, by omega⟩
      rw [List.getElem?_take_of_lt hj5, Nat.add_sub_cancel_left]
      simp only [List.getElem?_set, List.length_set]
      match i, hi with
      | 0, _ => simp; omega
      | 1, _ => simp; omega
    · rw [List.getElem?_eq_none (by rw [List.length_take]; omega), List.getElem?_eq_none (by simp; omega)]

theorem HeapsAt.item {W : World} {a : Option Addr} {hs : List Hp} (h : HeapsAt W a hs) (k : Nat) (hk : k < hs.length) :
    ∃ b o, a = some ⟨b, o, none⟩ ∧ b < W.heap.size ∧ W.cell? ⟨b, o + k * 2, none⟩ = some (.slice hs[k].a hs[k].vs.length hs[k].ca) ∧ W.cell? ⟨b, o + k * 2 + 1, none⟩ = some (.slice hs[k].b hs[k].zs.length hs[k].cb) ∧ hs[k].At W := by
  obtain ⟨b, o, rfl, hb, hc⟩ := Row.item hpCells_length (by omega) h.row k hk
  exact ⟨b, o, rfl, hb, hc 0 _ rfl, by rw [Nat.add_assoc]; exact hc 1 _ rfl, h.each _ (List.getElem_mem hk)⟩

/-- A new row that holds copies of the heaps; nothing old has turned. -/
def CopyHeaps (hs : List Hp) (w : World) (e : Ending) (w' : World) : Prop :=
  ∃ ks : List Hp, ks.map Hp.body = hs.map Hp.body ∧ e = .returned (.slice (some ⟨w.heap.size, 0, none⟩) ks.length ks.length) ∧
    w'.ownsRow w.heap.size 34 2 (.slice (some ⟨w.heap.size, 0, none⟩) ks.length ks.length) ks.length (hpVals ks) ∧ HeapsIn (w.heap.size + 1) w' ks ∧ Below w.heap.size w w'

/-- The guard's answer over a row of heaps: where it is not negative, their cells and their number fit into the allowance. -/
def SzHeapsEnd (hs : List Hp) (left : Nat) (w : World) (e : Ending) (w' : World) : Prop :=
  ∃ r : Int, e = .returned (.int .i64 r) ∧ Below w.heap.size w w' ∧ r ≤ left ∧ (0 ≤ r → (hs.length : Int) + hpTotal hs + r = left)
set_option maxHeartbeats 800000 in
theorem eqHeapRows (a b : Option Addr) (ca cb : Nat) (hs ks : List Hp) (w : World) (hn : hs.length ≤ maxLen) (hl : ∀ x ∈ hs, x.vs.length ≤ maxLen ∧ x.zs.length ≤ maxLen) (hbd : ks.map Hp.body = hs.map Hp.body) (ha : HeapsAt w a hs) (hb : HeapsAt w b ks) :
    Calls Try.prog 7 #[.slice a hs.length ca, .slice b ks.length cb] w (GaveX (.bool true) w) := by
  unfold maxLen at hn
  have hkl : ks.length = hs.length := by
    have h1 := congrArg List.length hbd
    simpa using h1
  rw [hkl]
  go_enter Try.func7, Try.ntmps7
  go_wp2
  go_loopw [5] (fun i wr => ∃ k : Nat, k ≤ hs.length ∧ i = .int .i64 k ∧ Below w.heap.size w wr) (fun i _ => hs.length - (intOf i).toNat)
  case atStart => exact ⟨0, Nat.zero_le _, rfl, Below.refl _ _⟩
  case round =>
    obtain ⟨k, hk, rfl, hbw⟩ := hrel
    by_cases hlt : k < hs.length
    · have hlk : k < ks.length := by omega
      obtain ⟨ba, oa, rfl, hba, _, _, _⟩ := ha.item k hlt
      obtain ⟨bb, ob, rfl, hbb, _, _, _⟩ := hb.item k hlk
      have hx := hl hs[k] (List.getElem_mem hlt)
      have he : ks[k].body = hs[k].body := by
        have h1 : (ks.map Hp.body)[k]? = (hs.map Hp.body)[k]? := by rw [hbd]
        simpa [hlt, hlk] using h1
      have hA := fun W h => (ha.below (W' := W) h).item k hlt
      have hB := fun W h => (hb.below (W' := W) h).item k hlk
      generalize hs[k] = x at *
      generalize ks[k] = y at *
      obtain ⟨ya, yca, yb, ycb, yv, yz⟩ := y
      simp only [Hp.body, Prod.mk.injEq] at he
      obtain ⟨rfl, rfl⟩ := he
      have hS : ∀ W, Below w.heap.size w W → (W.cell? ⟨ba, oa + k * 2, none⟩ = some (.slice x.a x.vs.length x.ca) ∧ W.cell? ⟨ba, oa + k * 2 + 1, none⟩ = some (.slice x.b x.zs.length x.cb)) ∧ (W.cell? ⟨bb, ob + k * 2, none⟩ = some (.slice ya x.vs.length yca) ∧ W.cell? ⟨bb, ob + k * 2 + 1, none⟩ = some (.slice yb x.zs.length ycb)) := by
        intro W h
        obtain ⟨b1, o1, e1, _, p0, p1, _⟩ := hA W h
        obtain ⟨b2, o2, e2, _, q0, q1, _⟩ := hB W h
        injection e1 with e1
        injection e1 with e1 e1' _
        injection e2 with e2
        injection e2 with e2 e2' _
        subst e1 e1' e2 e2'
        exact ⟨⟨p0, p1⟩, q0, q1⟩
      have hR : ∀ W, Below w.heap.size w W → HeapAt W x.a x.b x.vs x.zs ∧ HeapAt W ya yb x.vs x.zs := fun W h => by
        obtain ⟨_, _, _, _, _, _, p⟩ := hA W h
        obtain ⟨_, _, _, _, _, _, q⟩ := hB W h
        exact ⟨p, q⟩
      have HS := Lib.hid hS
      have HR := Lib.hid hR
      have HA := Lib.hid ha
      have HB := Lib.hid hb
      clear hA hB hS hR ha hb hbd
      go_wp2_with fail
      go_region_held3 (fun W => (W.cell? ⟨ba, oa + k * 2, none⟩ = some (.slice x.a x.vs.length x.ca) ∧ W.cell? ⟨ba, oa + k * 2 + 1, none⟩ = some (.slice x.b x.zs.length x.cb)) ∧ (W.cell? ⟨bb, ob + k * 2, none⟩ = some (.slice ya x.vs.length yca) ∧ W.cell? ⟨bb, ob + k * 2 + 1, none⟩ = some (.slice yb x.zs.length ycb)))
        (first | with_reducible exact HS.out _ (Below.drew hbw) | with_reducible exact HS.out _ hB1)
        (first | (go_at_call 20; (with_reducible refine (eqHeaps x.a x.b ya yb x.ca x.cb yca ycb x.vs x.zs _ hx.1 hx.2 (HR.out _ (Below.drew hbw)).1 (HR.out _ (Below.drew hbw)).2).mono ?_); rintro e w1 ⟨rfl, hb1⟩; have hB1 := (Below.drew hbw).trans (hb1.mono (Below.drew hbw).size)))
      go_wp2
      go_roundw
      case rel => exact ⟨k + 1, by omega, by go_num, hB1⟩
      case measure => simp [intOf]; omega
    · go_wp2
      go_ret
      exact ⟨rfl, hbw⟩
end Go.Proofs.Ytpmmjaceehlpiaa
