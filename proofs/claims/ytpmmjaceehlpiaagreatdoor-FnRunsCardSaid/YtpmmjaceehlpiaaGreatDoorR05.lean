/-
  Several texts of one proof in one file, in the order in which they build.
-/
import Derived.Deep.RegionHeld3
import Derived.Laws.Concat
import Derived.Deep.AppendLies
import Derived.Deep.RegionLaw
import Derived.Test.YtpmmjaceehlpiaaGreatDoorR04
import Derived.Test.YtpmmjaceehlpiaaGreatDoorR01
import Derived.Test.YtpmmjaceehlpiaaGreatDoorR03
/-
  The model's ProgramText: the text of a program that is right, else the empty text.
-/
namespace Go.Proofs.YtpmmjaceehlpiaaGreatDoor
open Go Go.RowKit

theorem add_mk (P : Program) (W : World) (l : List UInt8) (s : ByteArray) (h : l.length + s.data.toList.length ≤ 9223372036854775807) : (Op.stringOp .add (⟨l.toArray⟩ : ByteArray) s).run P W = .ok (.string ⟨(l ++ s.data.toList).toArray⟩) W := by
  rw [run_string_add_sum W _ _ (by rw [mk_size, ← size_toList]; exact h), mk_append]

set_option maxRecDepth 100000 in
set_option maxHeartbeats 3200000 in
theorem specProgText (a b : Option Addr) (ca cb : Nat) (ss : List ByteArray) (p : Int) (es : List Ed) (w : World) (hs : ss.length ≤ maxLen ∧ (∀ s ∈ ss, s.size ≤ maxLen) ∧ Row w w.heap.size a (strVals ss)) (hp : -9223372036854775808 ≤ p ∧ p ≤ 9223372036854775807) (he : es.length ≤ maxLen ∧ (∀ x ∈ es, x.Ok) ∧ Row w w.heap.size b (edVals es)) :
    Calls Tryz.prog 145 #[.agg #[.slice a ss.length ca, .int .i64 p, .slice b es.length cb]] w (GaveB (.string (progT ss p es)) w) := by
  have key : ∀ W, Below w.heap.size w W → Row W W.heap.size a (strVals ss) ∧ Row W W.heap.size b (edVals es) := fun W h => ⟨(hs.2.2.below h).grow h.size, (he.2.2.below h).grow h.size⟩
  go_enter Tryz.func145, Tryz.ntmps145
  go_wp2_with fail
  obtain ⟨W0, hW0, hb0, hs0, hA0⟩ := one_box w (.slice a ss.length ca) (.int .i64 p) (.slice b es.length cb) 27
  rw [hW0]
  clear hW0
  refine (specIsProgram _ _ _ _ ss p es _ ⟨hs.1, hs.2.1, (key _ hb0).1⟩ hp ⟨he.1, (key _ hb0).2⟩).mono ?_
  rintro e w1 ⟨rfl, hb1⟩
  have hB1 := hb0.trans (hb1.mono hb0.size)
  have hA1 := hA0.keep hs0 hb1
  have hs1 : w.heap.size < w1.heap.size := Nat.lt_of_lt_of_le hs0 hb1.size
  cases hg : progB ss p es with
  | false =>
    have hf := Lib.hid (progT_no hg)
    go_wp2
    go_ret
    exact ⟨by rw [hf.out]; rfl, hB1⟩
  | true =>
    have hfin := Lib.hid (progT_yes hg)
    have hgv : goodVars ss = true ∧ es.length ≤ 24 := by simp only [progB, Bool.and_eq_true, decide_eq_true_eq] at hg; exact ⟨hg.1.1.1.1, hg.1.2⟩
    have hsm := vars_small hgv.1
    have hes24 := hgv.2
    have hL := fun k => progL_length ss p (es.take k) hgv.1 hp fun x hx => he.2.1 x (List.mem_of_mem_take hx)
    have hL' : ∀ k, (progL ss p (es.take k)).length ≤ 2000 := fun k => by have := hL k; rw [List.length_take] at this; omega
    have hjl : (jn ss ⟨#[32]⟩).length ≤ 12 := by
      have := jn_length ss ⟨#[32]⟩
      rw [show (⟨#[32]⟩ : ByteArray).size = 1 from rfl] at this
      omega
    have hpl := Lib.itoa_length_le p hp.1 hp.2
    clear hg hgv hb1 hA0 hs0 hb0 hL
    have hAll : ∀ W, Below w1.heap.size w1 W → Box3 W w.heap.size (.slice a ss.length ca) (.int .i64 p) (.slice b es.length cb) ∧ Below w.heap.size w W := fun W h => ⟨hA1.keep hs1 h, hB1.trans (h.mono hB1.size)⟩
    have q1 := fun W => add_mk Tryz.prog W (jn ss ⟨#[32]⟩) ⟨#[59]⟩ (by simp; omega)
    have q2 := fun W => add_mk Tryz.prog W (jn ss ⟨#[32]⟩ ++ (⟨#[59]⟩ : ByteArray).data.toList) ⟨(Lib.itoa p).toArray⟩ (by simp; omega)
    have hend0 : (jn ss ⟨#[32]⟩ ++ (⟨#[59]⟩ : ByteArray).data.toList) ++ (⟨(Lib.itoa p).toArray⟩ : ByteArray).data.toList = progL ss p (es.take 0) := by simp [progL]
    go_wp2
    go_region_held3 (fun w' => w'.cell? ⟨w.heap.size, 0, none⟩ = some (.slice a ss.length ca) ∧ w'.cell? ⟨w.heap.size, 1, none⟩ = some (.int .i64 p) ∧ w'.cell? ⟨w.heap.size, 2, none⟩ = some (.slice b es.length cb))
      (first | with_reducible exact (hAll _ (Below.drew (Below.refl _ _))).1 | with_reducible exact (hAll _ H2).1 | with_reducible exact (hAll _ H3).1)
      (first
        | (go_at_call 161; (with_reducible refine (specJoin a ca ss ⟨#[32]⟩ _ hs.1 (by rw [show (⟨#[32]⟩ : ByteArray).size = 1 from rfl]; omega) (key _ (hAll _ (Below.drew (Below.refl _ _))).2).1).mono ?_); rintro e w2 ⟨rfl, hb2⟩; have H2 := (Below.drew (Below.refl w1.heap.size w1)).trans hb2)
        | (go_at_call 162; (with_reducible refine (specFormat p hp.1 hp.2 _).mono ?_); rintro e w3 ⟨rfl, hb3⟩; have H3 := H2.trans (hb3.mono H2.size)))
    clear hb2 hb3 H2 q1 q2 hend0 hjl hpl
    obtain ⟨c0, c1, c2⟩ := (hAll _ H3).1
    have hz : (.string ⟨(progL ss p []).toArray⟩ : Value) = .string ⟨(progL ss p (es.take 0)).toArray⟩ := rfl
    go_wp2
    clear c0 c1 c2
    go_loopw [3, 4] (fun v i wr => ∃ k : Nat, k ≤ es.length ∧ i = .int .i64 k ∧ v = .string ⟨(progL ss p (es.take k)).toArray⟩ ∧ Below w1.heap.size w1 wr) (fun _ i _ => es.length - (intOf i).toNat)
    case atStart => exact ⟨0, Nat.zero_le _, rfl, rfl, H3⟩
    case round =>
      obtain ⟨k, hk, rfl, rfl, hb⟩ := hrel
      obtain ⟨e0, e1, e2⟩ := (hAll _ hb).1
      by_cases hlt : k < es.length
      · obtain ⟨b0, o, rfl, hbW, hE0⟩ := he.2.2.edge k hlt
        have hBr := (hAll _ hb).2
        obtain ⟨c0, c1, c2, c3, c4⟩ := hE0.below hBr hbW
        have hok := he.2.1 es[k] (List.getElem_mem hlt)
        have hnx := progL_next ss p es k hlt
        have hLk := hL' k
        generalize es[k] = x at *
        have h1 := Lib.itoa_length_le x.f hok.f.1 hok.f.2
        have h2 := Lib.itoa_length_le x.t hok.t.1 hok.t.2
        have h3 := textS_small x.k x.a x.b
        generalize progL ss p (es.take k) = L at *
        have Hnx := Lib.hid hnx
        clear hE0 hnx
        have hstep : ∀ (M : List UInt8) (t : ByteArray), M.length ≤ 3000 → t.data.toList.length ≤ 100 → ∃ M' : List UInt8, M' = M ++ t.data.toList ∧ M'.length = M.length + t.data.toList.length ∧ ∀ W, (Op.stringOp .add (⟨M.toArray⟩ : ByteArray) t).run Tryz.prog W = .ok (.string ⟨M'.toArray⟩) W := fun M t hM ht =>
          ⟨_, rfl, by simp, fun W => add_mk Tryz.prog W M t (by omega)⟩
        obtain ⟨L1, p1, n1, q1⟩ := hstep L ⟨#[59]⟩ (by omega) (by simp)
        rw [show (⟨#[59]⟩ : ByteArray).data.toList = [59] from rfl] at p1 n1
        rw [List.length_singleton] at n1
        obtain ⟨L2, p2, n2, q2⟩ := hstep L1 ⟨(Lib.itoa x.f).toArray⟩ (by omega) (by simp; omega)
        rw [show (⟨(Lib.itoa x.f).toArray⟩ : ByteArray).data.toList = Lib.itoa x.f from rfl] at p2 n2
        obtain ⟨L3, p3, n3, q3⟩ := hstep L2 ⟨#[32]⟩ (by omega) (by simp)
        rw [show (⟨#[32]⟩ : ByteArray).data.toList = [32] from rfl] at p3 n3
        rw [List.length_singleton] at n3
        obtain ⟨L4, p4, n4, q4⟩ := hstep L3 ⟨(Lib.itoa x.t).toArray⟩ (by omega) (by simp; omega)
        rw [show (⟨(Lib.itoa x.t).toArray⟩ : ByteArray).data.toList = Lib.itoa x.t from rfl] at p4 n4
        obtain ⟨L5, p5, n5, q5⟩ := hstep L4 ⟨#[32]⟩ (by omega) (by simp)
        rw [show (⟨#[32]⟩ : ByteArray).data.toList = [32] from rfl] at p5 n5
        rw [List.length_singleton] at n5
        obtain ⟨L6, p6, n6, q6⟩ := hstep L5 (textS x.k x.a x.b) (by omega) (by omega)
        have hsum : L ++ 59 :: edL x = L6 := by
          rw [p6, p5, p4, p3, p2, p1]
          simp [edL]
        have Hsum := Lib.hid hsum
        clear hstep p1 p2 p3 p4 p5 p6 n1 n2 n3 n4 n5 n6 hsum h1 h2 h3 hLk
        go_wp2
        obtain ⟨W5, hW5, hb5, hs5, hX5⟩ := edge_box wr x 85
        rw [hW5]
        clear hW5 c0 c1 c2 c3 c4
        have hAt : ∀ W, Below W5.heap.size W5 W → Box5 W wr.heap.size x ∧ Below w1.heap.size w1 W := fun W h => by
          have h5 : Below wr.heap.size wr W := hb5.trans (h.mono hb5.size)
          exact ⟨hX5.keep hs5 h, hb.trans (h5.mono hb.size)⟩
        clear hX5 hb5 hs5
        go_region_held3 (fun w' => w'.cell? ⟨wr.heap.size, 0, none⟩ = some (.int .i64 x.f) ∧ w'.cell? ⟨wr.heap.size, 1, none⟩ = some (.int .i64 x.t) ∧ w'.cell? ⟨wr.heap.size, 2, none⟩ = some (.int .i64 x.k) ∧ w'.cell? ⟨wr.heap.size, 3, none⟩ = some (.string x.a) ∧ w'.cell? ⟨wr.heap.size, 4, none⟩ = some (.string x.b))
          (first | with_reducible exact (hAt _ (Below.drew (Below.refl _ _))).1 | with_reducible exact (hAt _ G1).1 | with_reducible exact (hAt _ G2).1 | with_reducible exact (hAt _ G3).1)
          (first
            | (go_at_call 162; (with_reducible refine (specFormat x.f hok.f.1 hok.f.2 _).mono ?_); rintro e w5 ⟨rfl, hb5⟩; have G1 := (Below.drew (Below.refl W5.heap.size W5)).trans hb5)
            | (go_at_call 162; (with_reducible refine (specFormat x.t hok.t.1 hok.t.2 _).mono ?_); rintro e w6 ⟨rfl, hb6⟩; have G2 := G1.trans (hb6.mono G1.size))
            | (go_at_call 163; (with_reducible refine (specStmtText x.k x.a x.b _ hok.a hok.b).mono ?_); rintro e w7 ⟨rfl, hb7⟩; have G3 := G2.trans (hb7.mono G2.size)))
        have H7 := (hAt _ G3).2
        clear hb5 hb6 hb7 G1 G2 G3 q1 q2 q3 q4 q5 q6
        go_wp2
        go_roundw
        case rel => exact ⟨k + 1, by omega, by go_num, by rw [Hnx.out, Hsum.out], H7⟩
        case measure => simp [intOf]; omega
      · have hk' : k = es.length := by omega
        subst hk'
        have hBr := (hAll _ hb).2
        rw [List.take_length]
        go_wp2
        go_ret
        exact ⟨by rw [hfin.out]; rfl, hBr⟩
end Go.Proofs.YtpmmjaceehlpiaaGreatDoor
/-
  A program as a value; what a text parsed as a program comes to, in plain words; bounds of a reading.
-/
namespace Go.Proofs.YtpmmjaceehlpiaaGreatDoor
open Go Go.RowKit Go.ChangeShapes Go.WideShapes Go.ChangeAt

theorem setCell_size (w : World) (p : Addr) (u : Value) : (w.setCell p u).heap.size = w.heap.size := by simp [World.setCell]
theorem pair_end {lo hi : Int} {l : List UInt8} {w w' : World} {e : Ending} (h : PairEnd lo hi l w e w') : e = .returned (.tuple #[.int .i64 (if numN lo hi l = true then valOf l else 0), .bool (numN lo hi l)]) ∧ Below w.heap.size w w' := by
  obtain ⟨h1, h2⟩ := h
  cases hn : numN lo hi l <;> simp_all

theorem own_form' {w : World} {base e size n : Nat} {v : Value} {xs : List Value} (h : w.ownsRow base e size v n xs) : ∃ a c, v = .slice a n c ∧ n ≤ c := by
  rcases h.2 with ⟨rfl, rfl⟩ | ⟨g, cap, cur, rfl, _, _, hc, _⟩
  · exact ⟨_, _, rfl, Nat.le_refl _⟩
  · exact ⟨_, _, rfl, hc⟩
theorem strInfoP : (Tryz.prog.info? 9).map (fun i => (i.zero, i.size, i.bytes)) = some (some (.string ⟨#[]⟩), 1, 16) := by kernel_rfl
def lenV : Option Value → Nat
  | some (.slice _ n _) => n
  | _ => 0
theorem nx_bound (c : UInt8) (t : List UInt8) (n : Nat) : nx c t n ≤ n + t.length + 1 := by
  have := pc_length c t n
  unfold nx
  omega
theorem st_bound {t : List UInt8} {k : Nat} (hc : ∀ j, j < k → contR t j = true) (ht : t.length ≤ 1000000000) : (st t k).1 ≤ 5000000000 := by
  cases k with
  | zero =>
    show at0 t ≤ _
    have h1 := nx_bound 59 t 0
    have h2 := nx_bound 59 t (nx 59 t 0)
    unfold at0
    omega
  | succ k =>
    have h := hc k (by omega)
    simp only [contR, Bool.and_eq_true, decide_eq_true_eq] at h
    show edNext t (st t k).1 ≤ _
    have h1 := nx_bound 32 t (st t k).1
    have h2 := nx_bound 32 t (nx 32 t (st t k).1)
    have h3 := nx_bound 59 t (nx 32 t (nx 32 t (st t k).1))
    unfold edNext
    omega
theorem cont_small {t : List UInt8} {k : Nat} (hc : ∀ j, j < k → contR t j = true) : k ≤ 25 := by
  cases k with
  | zero => omega
  | succ k =>
    have h := hc k (by omega)
    simp only [contR, Bool.and_eq_true, decide_eq_true_eq] at h
    omega
theorem row_of_own {w : World} {base e n M : Nat} {a : Option Addr} {c : Nat} {xs : List Value} (h : w.ownsRow base e 1 (.slice a n c) n xs) (hM : ∀ j, (Value.slice a n c).ownBlock = some j → j < M) : Row w M a xs := by
  intro k x hx
  obtain ⟨b, o, ha, _, hc⟩ := Row.owned h k x hx
  exact ⟨b, o, ha, hM b (by rw [ha]; rfl), hc⟩

theorem news_edge (w : World) (x : Ed) : ∀ j u, (edCells x)[j]? = some u → (w.alloc (.cells #[.int .i64 x.f, .int .i64 x.t, .int .i64 x.k, .string x.a, .string x.b] 85)).cell? ((⟨w.heap.size, 0, none⟩ : Addr).add j) = some u := by
  intro j u hj
  match j, hj with
  | 0, hj => simp [edCells] at hj; subst hj; simp [Addr.add, go_sem]
  | 1, hj => simp [edCells] at hj; subst hj; simp [Addr.add, go_sem]
  | 2, hj => simp [edCells] at hj; subst hj; simp [Addr.add, go_sem]
  | 3, hj => simp [edCells] at hj; subst hj; simp [Addr.add, go_sem]
  | 4, hj => simp [edCells] at hj; subst hj; simp [Addr.add, go_sem]
  | j + 5, hj => simp [edCells] at hj
theorem edCells_one (x : Ed) : ∀ u ∈ edCells x, u.oneCell' = true := by
  intro u hu
  simp [edCells] at hu
  rcases hu with rfl | rfl | rfl | rfl | rfl <;> rfl

/-- A program as a value. -/
abbrev progV (a : Option Addr) (n cap : Nat) (p : Int) (b : Option Addr) (m capb : Nat) : Value := .agg #[.slice a n cap, .int .i64 p, .slice b m capb]
/-- What ParseProgram answers. -/
def ParsedProg (t : ByteArray) (w : World) (e : Ending) (w' : World) : Prop :=
  (∃ a ca b cb ss p es M, ValidT t.data.toList ss p es ∧ e = .returned (.tuple #[progV a ss.length ca p b es.length cb, .bool true]) ∧ ss.length ≤ ca ∧ es.length ≤ cb ∧ w.heap.size ≤ M ∧ M ≤ w'.heap.size ∧
    w'.ownsRow w.heap.size 9 1 (.slice a ss.length ca) ss.length (strVals ss) ∧ Row w' M a (strVals ss) ∧ w'.ownsRow M 85 5 (.slice b es.length cb) es.length (edVals es) ∧ Below w.heap.size w w') ∨
  ((∀ ss p es, ¬ ValidT t.data.toList ss p es) ∧ e = .returned (.tuple #[progV none 0 0 0 none 0 0, .bool false]) ∧ Below w.heap.size w w')
end Go.Proofs.YtpmmjaceehlpiaaGreatDoor
