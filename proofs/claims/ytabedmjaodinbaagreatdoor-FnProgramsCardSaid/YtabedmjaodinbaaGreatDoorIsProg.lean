/-
  Which programs are right: the program's answer and the model's.
-/
import Derived.Test.YtabedmjaodinbaaGreatDoorEdges
import Derived.Test.YtabedmjaodinbaaGreatDoorIsStmt
namespace Go.Proofs.YtabedmjaodinbaaGreatDoor
open Go Go.RowKit

def pointB (p n : Int) : Bool := decide (0 ≤ n) && decide (n < p)
def edB (ss : List ByteArray) (p : Int) (x : Ed) : Bool := pointB p x.f && pointB p x.t && stmtB ss x.k x.a x.b
def progB (ss : List ByteArray) (p : Int) (es : List Ed) : Bool := goodVars ss && decide (1 ≤ p) && decide (p ≤ 12) && decide (es.length ≤ 24) && es.all (edB ss p)
theorem all_at {es : List Ed} {f : Ed → Bool} {k : Nat} (h : k < es.length) (hf : f es[k] = false) : es.all f = false := by
  rw [List.all_eq_false]
  exact ⟨es[k], List.getElem_mem h, by simp [hf]⟩
theorem all_next {es : List Ed} {f : Ed → Bool} {k : Nat} (h : k < es.length) (ha : (es.take k).all f = true) (hf : f es[k] = true) : (es.take (k + 1)).all f = true := by
  rw [take_next es k h, List.all_append, ha]
  simp [hf]

theorem progB_false {ss : List ByteArray} {p : Int} {es : List Ed} (h : ¬ (goodVars ss = true ∧ 1 ≤ p ∧ p ≤ 12 ∧ es.length ≤ 24 ∧ es.all (edB ss p) = true)) : progB ss p es = false := by
  cases hh : progB ss p es with
  | false => rfl
  | true => exact absurd (by simpa [progB, and_assoc] using hh) h
theorem progB_true {ss : List ByteArray} {p : Int} {es : List Ed} (h1 : goodVars ss = true) (h2 : 1 ≤ p) (h3 : p ≤ 12) (h4 : es.length ≤ 24) (h5 : es.all (edB ss p) = true) : progB ss p es = true := by
  simp only [progB, h1, h2, h3, h4, h5, decide_true, Bool.and_self]

theorem implIsPoint (a b : Option Addr) (na ca nb cb : Nat) (p n : Int) (w : World) : Calls Tryz.prog 34 #[.agg #[.slice a na ca, .int .i64 p, .slice b nb cb], .int .i64 n] w (GaveB (.bool (pointB p n)) w) := by
  by_cases h0 : 0 ≤ n <;> by_cases h1 : n < p
  all_goals
    go_enter Tryz.func34, Tryz.ntmps34
    go_wp2
    go_ret
    exact ⟨by simp [pointB, h0, h1], (Below.refl _ _).alloc (Nat.le_refl _) _⟩

set_option maxHeartbeats 3200000 in
theorem implIsProgram (a b : Option Addr) (ca cb : Nat) (ss : List ByteArray) (p : Int) (es : List Ed) (w : World) (hs : ss.length ≤ maxLen ∧ (∀ s ∈ ss, s.size ≤ maxLen) ∧ Row w w.heap.size a (strVals ss)) (he : es.length ≤ maxLen ∧ Row w w.heap.size b (edVals es)) (hT : HasNamesTable w) :
    Calls Tryz.prog 10 #[.agg #[.slice a ss.length ca, .int .i64 p, .slice b es.length cb]] w (GaveB (.bool (progB ss p es)) w) := by
  have hlen := he.1
  unfold maxLen at hlen
  have key : ∀ W, Below w.heap.size w W → Row W W.heap.size a (strVals ss) := fun W h => (hs.2.2.below h).grow h.size
  go_enter Tryz.func10, Tryz.ntmps10
  go_wp2_with fail
  obtain ⟨W0, hW0, hb0, hs0, hA0⟩ := one_box w (.slice a ss.length ca) (.int .i64 p) (.slice b es.length cb) 27
  rw [hW0]
  clear hW0
  refine (implAreVars a ca ss _ hs.1 hs.2.1 (key _ hb0)).mono ?_
  rintro e w1 ⟨rfl, hb1⟩
  have hB1 := hb0.trans (hb1.mono hb0.size)
  have hA1 := hA0.keep hs0 hb1
  obtain ⟨c0, c1, c2⟩ := hA0.keep hs0 hb1
  have hs1 : w.heap.size < w1.heap.size := Nat.lt_of_lt_of_le hs0 hb1.size
  clear hb1 hA0 hs0 hb0
  generalize hg : goodVars ss = gv
  cases gv with
  | false =>
    have hf := Lib.hid (progB_false (p := p) (es := es) (fun h => by rw [hg] at h; cases h.1))
    go_wp2
    go_ret
    exact ⟨by rw [hf.out]; rfl, hB1⟩
  | true =>
    by_cases h1 : 1 ≤ p
    · by_cases h2 : p ≤ 12
      · by_cases h3 : es.length ≤ 24
        · go_wp2
          clear c0 c1 c2
          go_loopw [28] (fun i wr => ∃ k : Nat, k ≤ es.length ∧ i = .int .i64 k ∧ (es.take k).all (edB ss p) = true ∧ Below w1.heap.size w1 wr) (fun i _ => es.length - (intOf i).toNat)
          case atStart => exact ⟨0, Nat.zero_le _, rfl, rfl, Below.refl _ _⟩
          case round =>
            obtain ⟨k, hk, rfl, hall, hb⟩ := hrel
            have hBr := hB1.trans (hb.mono hB1.size)
            by_cases hlt : k < es.length
            · obtain ⟨b0, o, rfl, hbW, hE0⟩ := he.2.edge k hlt
              obtain ⟨c0, c1, c2, c3, c4⟩ := hE0.below hBr hbW
              have hno : edB ss p es[k] = false → progB ss p es = false := fun hf => progB_false fun h => by rw [all_at hlt hf] at h; cases h.2.2.2.2
              have hyes : edB ss p es[k] = true → (es.take (k + 1)).all (edB ss p) = true := fun hf => all_next hlt hall hf
              generalize es[k] = x at *
              have hbox := hA1.keep hs1 hb
              have hsr : w.heap.size < wr.heap.size := Nat.lt_of_lt_of_le hs1 hb.size
              obtain ⟨e0, e1, e2⟩ := hbox
              clear hE0
              have Hall := Lib.hid hall
              clear hall
              go_wp2_with fail
              obtain ⟨W5, hW5, hb5, hs5, hX5⟩ := edge_box wr x 44
              rw [hW5]
              clear hW5
              have hAt : ∀ W, Below W5.heap.size W5 W → (Box3 W w.heap.size (.slice a ss.length ca) (.int .i64 p) (.slice (some ⟨b0, o, none⟩) es.length cb) ∧ Box5 W wr.heap.size x) ∧ Below w1.heap.size w1 W ∧ Below w.heap.size w W := fun W h => by
                have h5 : Below wr.heap.size wr W := hb5.trans (h.mono hb5.size)
                have h1 := hb.trans (h5.mono hb.size)
                exact ⟨⟨hA1.keep hs1 h1, hX5.keep hs5 h⟩, h1, hB1.trans (h1.mono hB1.size)⟩
              clear c0 c1 c2 c3 c4 e0 e1 e2 hX5 hb5 hs5
              refine (implIsPoint _ _ _ _ _ _ p x.f _).mono ?_
              rintro e w2 ⟨rfl, hb2⟩
              obtain ⟨⟨⟨e0, e1, e2⟩, ⟨c0, c1, c2, c3, c4⟩⟩, hb12, hBw2⟩ := hAt _ hb2
              cases hpf : pointB p x.f with
              | false =>
                have hf := Lib.hid (hno (by simp [edB, hpf]))
                go_wp2
                go_ret
                exact ⟨by rw [hf.out]; rfl, hBw2⟩
              | true =>
                go_wp2_with fail
                refine (implIsPoint _ _ _ _ _ _ p x.t _).mono ?_
                clear e0 e1 e2 c0 c1 c2 c3 c4
                rintro e w3 ⟨rfl, hb3⟩
                have hb3 := hb2.trans (hb3.mono hb2.size)
                obtain ⟨⟨⟨e0, e1, e2⟩, ⟨c0, c1, c2, c3, c4⟩⟩, hb13, hBw3⟩ := hAt _ hb3
                cases hpt : pointB p x.t with
                | false =>
                  have hf := Lib.hid (hno (by simp [edB, hpt]))
                  go_wp2
                  go_ret
                  exact ⟨by rw [hf.out]; rfl, hBw3⟩
                | true =>
                  go_wp2_with fail
                  refine (implIsStmt a ca ss x.k x.a x.b _ hs.1 hs.2.1 (key _ hBw3) (hT.keeps hBw3)).mono ?_
                  clear e0 e1 e2 c0 c1 c2 c3 c4
                  rintro e w4 ⟨rfl, hb4⟩
                  have hb4 := hb3.trans (hb4.mono hb3.size)
                  obtain ⟨_, hb14, hBw4⟩ := hAt _ hb4
                  cases hst : stmtB ss x.k x.a x.b with
                  | false =>
                    have hf := Lib.hid (hno (by simp [edB, hst]))
                    go_wp2
                    go_ret
                    exact ⟨by rw [hf.out]; rfl, hBw4⟩
                  | true =>
                    have hy := Lib.hid (hyes (by simp [edB, hpf, hpt, hst]))
                    go_wp2
                    go_roundw
                    case rel => exact ⟨k + 1, by omega, by go_num, hy.out, hb14⟩
                    case measure => simp [intOf]; omega
            · have hk' : k = es.length := by omega
              rw [hk', List.take_length] at hall
              have ht := Lib.hid (progB_true hg h1 h2 h3 hall)
              clear hall
              go_wp2
              go_ret
              exact ⟨by rw [ht.out]; rfl, hBr⟩
        · have hf := Lib.hid (progB_false (ss := ss) (p := p) (es := es) (fun h => h3 h.2.2.2.1))
          go_wp2
          go_ret
          exact ⟨by rw [hf.out]; rfl, hB1⟩
      · have hf := Lib.hid (progB_false (ss := ss) (p := p) (es := es) (fun h => h2 h.2.2.1))
        go_wp2
        go_ret
        exact ⟨by rw [hf.out]; rfl, hB1⟩
    · have hf := Lib.hid (progB_false (ss := ss) (p := p) (es := es) (fun h => h1 h.2.1))
      go_wp2
      go_ret
      exact ⟨by rw [hf.out]; rfl, hB1⟩

theorem wrap_pred {p : Int} (h : 1 ≤ p) (h' : p ≤ 9223372036854775807) : IntKind.i64.wrap (p - 1) = p - 1 := by
  simp [IntKind.wrap, IntKind.bits, IntKind.signed]
  omega

set_option maxHeartbeats 3200000 in
theorem specIsProgram (a b : Option Addr) (ca cb : Nat) (ss : List ByteArray) (p : Int) (es : List Ed) (w : World) (hs : ss.length ≤ maxLen ∧ (∀ s ∈ ss, s.size ≤ maxLen) ∧ Row w w.heap.size a (strVals ss)) (hp : -9223372036854775808 ≤ p ∧ p ≤ 9223372036854775807) (he : es.length ≤ maxLen ∧ Row w w.heap.size b (edVals es)) :
    Calls Tryz.prog 11 #[.agg #[.slice a ss.length ca, .int .i64 p, .slice b es.length cb]] w (GaveB (.bool (progB ss p es)) w) := by
  have hlen := he.1
  unfold maxLen at hlen
  have key : ∀ W, Below w.heap.size w W → Row W W.heap.size a (strVals ss) := fun W h => (hs.2.2.below h).grow h.size
  obtain ⟨q, hq⟩ : ∃ q, IntKind.i64.wrap (p - 1) = q := ⟨_, rfl⟩
  have hq1 : 1 ≤ p → q = p - 1 := fun h => by rw [← hq, wrap_pred h hp.2]
  go_enter Tryz.func11, Tryz.ntmps11
  go_wp2
  obtain ⟨W0, hW0, hb0, hs0, hA0⟩ := one_box w (.slice a ss.length ca) (.int .i64 p) (.slice b es.length cb) 27
  rw [hW0]
  clear hW0
  go_loopw [3] (fun i wr => ∃ k : Nat, k ≤ es.length ∧ i = .int .i64 k ∧ (1 ≤ p → (es.take k).all (edB ss p) = true) ∧ Below W0.heap.size W0 wr) (fun i _ => es.length - (intOf i).toNat)
  case atStart => exact ⟨0, Nat.zero_le _, rfl, fun _ => rfl, Below.refl _ _⟩
  case round =>
    obtain ⟨k, hk, rfl, hall, hb⟩ := hrel
    have hBr := hb0.trans (hb.mono hb0.size)
    obtain ⟨e0, e1, e2⟩ := hA0.keep hs0 hb
    have hsr : w.heap.size < wr.heap.size := Nat.lt_of_lt_of_le hs0 hb.size
    by_cases hlt : k < es.length
    · obtain ⟨b0, o, rfl, hbW, hE0⟩ := he.2.edge k hlt
      obtain ⟨c0, c1, c2, c3, c4⟩ := hE0.below hBr hbW
      have hno : (1 ≤ p → edB ss p es[k] = false) → progB ss p es = false := fun hf => progB_false fun h => by have h' := hf h.2.1; rw [all_at hlt h'] at h; cases h.2.2.2.2
      have hyes : (1 ≤ p → edB ss p es[k] = true) → (1 ≤ p → (es.take (k + 1)).all (edB ss p) = true) := fun hf h => all_next hlt (hall h) (hf h)
      generalize es[k] = x at *
      clear hE0 hall
      go_wp2_with fail
      obtain ⟨W5, hW5, hb5, hs5, hX5⟩ := edge_box wr x 44
      rw [hW5]
      clear hW5
      have hAt : ∀ W, Below W5.heap.size W5 W → (Box3 W w.heap.size (.slice a ss.length ca) (.int .i64 p) (.slice (some ⟨b0, o, none⟩) es.length cb) ∧ Box5 W wr.heap.size x) ∧ Below W0.heap.size W0 W ∧ Below w.heap.size w W := fun W h => by
        have h5 : Below wr.heap.size wr W := hb5.trans (h.mono hb5.size)
        have h1 := hb.trans (h5.mono hb.size)
        exact ⟨⟨hA0.keep hs0 h1, hX5.keep hs5 h⟩, h1, hb0.trans (h1.mono hb0.size)⟩
      clear c0 c1 c2 c3 c4 e0 e1 e2 hX5 hb5 hs5
      obtain ⟨⟨⟨e0, e1, e2⟩, ⟨c0, c1, c2, c3, c4⟩⟩, hb12, hBw2⟩ := hAt _ (Below.refl _ _)
      refine (specIn3 x.f 0 q _).mono ?_
      rintro e w2 ⟨rfl, rfl⟩
      cases hpf : (decide (0 ≤ x.f) && decide (x.f ≤ q)) with
      | false =>
        have hf := Lib.hid (hno fun h => by rw [hq1 h] at hpf; have : pointB p x.f = false := by { simp [pointB] at hpf ⊢; intro h0; have := hpf h0; omega }; simp [edB, this])
        go_wp2
        go_ret
        exact ⟨by rw [hf.out]; rfl, hBw2⟩
      | true =>
        go_wp2_with fail
        refine (specIn3 x.t 0 q _).mono ?_
        rintro e w3 ⟨rfl, rfl⟩
        cases hpt : (decide (0 ≤ x.t) && decide (x.t ≤ q)) with
        | false =>
          have hf := Lib.hid (hno fun h => by rw [hq1 h] at hpt; have : pointB p x.t = false := by { simp [pointB] at hpt ⊢; intro h0; have := hpt h0; omega }; simp [edB, this])
          go_wp2
          go_ret
          exact ⟨by rw [hf.out]; rfl, hBw2⟩
        | true =>
          go_wp2_with fail
          refine (specIsStmt a ca ss x.k x.a x.b _ hs.1 hs.2.1 (key _ hBw2)).mono ?_
          clear e0 e1 e2 c0 c1 c2 c3 c4
          rintro e w4 ⟨rfl, hb4⟩
          obtain ⟨_, hb14, hBw4⟩ := hAt _ hb4
          cases hst : stmtB ss x.k x.a x.b with
          | false =>
            have hf := Lib.hid (hno fun _ => by simp [edB, hst])
            go_wp2
            go_ret
            exact ⟨by rw [hf.out]; rfl, hBw4⟩
          | true =>
            have hy := Lib.hid (hyes fun h => by
              rw [hq1 h] at hpf hpt
              have h1 : pointB p x.f = true := by { simp [pointB] at hpf ⊢; omega }
              have h2 : pointB p x.t = true := by { simp [pointB] at hpt ⊢; omega }
              simp [edB, h1, h2, hst])
            go_wp2
            go_roundw
            case rel => exact ⟨k + 1, by omega, by go_num, hy.out, hb14⟩
            case measure => simp [intOf]; omega
    · have hk' : k = es.length := by omega
      rw [hk', List.take_length] at hall
      have Hall := Lib.hid hall
      clear hall
      go_wp2_with fail
      refine (specAreVars a ca ss _ hs.1 hs.2.1 (key _ hBr)).mono ?_
      rintro e w2 ⟨rfl, rfl⟩
      cases hg : goodVars ss with
      | false =>
        have hf := Lib.hid (progB_false (p := p) (es := es) (fun h => by rw [hg] at h; cases h.1))
        go_wp2
        go_ret
        exact ⟨by rw [hf.out]; rfl, hBr⟩
      | true =>
        go_wp2_with fail
        refine (specIn3 p 1 12 _).mono ?_
        rintro e w3 ⟨rfl, rfl⟩
        cases hpp : (decide (1 ≤ p) && decide (p ≤ 12)) with
        | false =>
          have hf := Lib.hid (progB_false (ss := ss) (p := p) (es := es) (fun h => by simp [h.2.1, h.2.2.1] at hpp))
          go_wp2
          go_ret
          exact ⟨by rw [hf.out]; rfl, hBr⟩
        | true =>
          have hpp' : 1 ≤ p ∧ p ≤ 12 := by simpa using hpp
          by_cases h3 : es.length ≤ 24
          · have ht := Lib.hid (progB_true hg hpp'.1 hpp'.2 h3 (Hall.out hpp'.1))
            go_wp2
            go_ret
            exact ⟨by rw [ht.out]; simp; omega, hBr⟩
          · have hf := Lib.hid (progB_false (ss := ss) (p := p) (es := es) (fun h => h3 h.2.2.2.1))
            go_wp2
            go_ret
            exact ⟨by rw [hf.out]; simp; omega, hBr⟩
end Go.Proofs.YtabedmjaodinbaaGreatDoor
