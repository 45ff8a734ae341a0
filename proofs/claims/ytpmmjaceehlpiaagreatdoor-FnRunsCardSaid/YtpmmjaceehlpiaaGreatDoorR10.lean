/-
  Several texts of one proof in one file, in the order in which they build.
-/
import Derived.Deep.Slices
import Derived.Deep.RegionHeld3
import Derived.Test.YtpmmjaceehlpiaaGreatDoorR06
import Derived.Test.YtpmmjaceehlpiaaGreatDoorR03
import Derived.Test.YtpmmjaceehlpiaaGreatDoorR01
import Derived.Test.YtpmmjaceehlpiaaGreatDoorR02
/-
  Rows of structs that hold heaps: each with where its rows lie and what they hold. Nothing here knows of the program's text.
-/
namespace Go.Proofs.YtpmmjaceehlpiaaGreatDoor
open Go Go.RowKit

/-- Rows whose elements take s cells each. -/
def fl {α : Type} (c : α → List Value) (xs : List α) : List Value := xs.flatMap c
section
variable {α : Type} {c : α → List Value} {s : Nat}
theorem fl_nil : fl c [] = [] := rfl
theorem fl_cons (x : α) (xs : List α) : fl c (x :: xs) = c x ++ fl c xs := rfl
theorem fl_append (xs ys : List α) : fl c (xs ++ ys) = fl c xs ++ fl c ys := by simp [fl]
theorem fl_snoc (xs : List α) (x : α) : fl c (xs ++ [x]) = fl c xs ++ c x := by simp [fl]
theorem fl_length (hc : ∀ x, (c x).length = s) : ∀ xs : List α, (fl c xs).length = xs.length * s
  | [] => by simp [fl]
  | x :: xs => by rw [fl_cons, List.length_append, fl_length hc xs, hc, List.length_cons, Nat.add_mul, Nat.one_mul, Nat.add_comm]
theorem fl_at (hc : ∀ x, (c x).length = s) : ∀ (xs : List α) (i : Nat) (h : i < xs.length) (j : Nat), j < s → (fl c xs)[i * s + j]? = (c xs[i])[j]?
  | x :: xs, 0, _, j, hj => by
    rw [fl_cons, List.getElem?_append_left (by rw [hc]; omega)]
    simp
  | x :: xs, i + 1, h, j, hj => by
    have h' : i < xs.length := by simpa using h
    rw [fl_cons, List.getElem?_append_right (by rw [hc, Nat.add_mul]; omega), hc, show (i + 1) * s + j - s = i * s + j by rw [Nat.add_mul]; omega, fl_at hc xs i h' j hj]
    simp
theorem fl_take (hc : ∀ x, (c x).length = s) : ∀ (xs : List α) (k : Nat), (fl c xs).take (k * s) = fl c (xs.take k)
  | [], k => by simp [fl]
  | x :: xs, 0 => by simp [fl]
  | x :: xs, k + 1 => by
    rw [fl_cons, List.take_succ_cons, fl_cons, List.take_append, hc, show (k + 1) * s - s = k * s by rw [Nat.add_mul]; omega, fl_take hc xs k, List.take_of_length_le (by rw [hc, Nat.add_mul]; omega)]
/-- An element's cells in a row that is read. -/
theorem Row.item {w : World} {B : Nat} {a : Option Addr} {xs : List α} (hc : ∀ x, (c x).length = s) (hs : 0 < s) (h : Row w B a (fl c xs)) (i : Nat) (hi : i < xs.length) :
    ∃ b o, a = some ⟨b, o, none⟩ ∧ b < B ∧ ∀ j u, (c xs[i])[j]? = some u → w.cell? ⟨b, o + (i * s + j), none⟩ = some u := by
  have g := fun j (hj : j < s) => h (i * s + j) _ ((fl_at hc xs i hi j hj).trans (List.getElem?_eq_getElem (by rw [hc]; exact hj)))
  obtain ⟨b, o, rfl, hb, _⟩ := g 0 hs
  refine ⟨b, o, rfl, hb, fun j u hu => ?_⟩
  obtain ⟨hj, rfl⟩ := List.getElem?_eq_some_iff.1 hu
  obtain ⟨b', o', e, _, hcell⟩ := g j (by rw [hc] at hj; exact hj)
  injection e with e
  injection e with e1 e2 _
  subst e1 e2
  exact hcell
end

/-- A heap: where its two rows lie, and what they hold. -/
structure Hp where
  a : Option Addr
  ca : Nat
  b : Option Addr
  cb : Nat
  vs : List Int
  zs : List Int
/-- What a heap holds. -/
def Hp.body (x : Hp) : List Int × List Int := (x.vs, x.zs)
/-- The blocks of a heap. -/
def Hp.has (x : Hp) (k : Nat) : Prop := (Value.slice x.a x.vs.length x.ca).ownBlock = some k ∨ (Value.slice x.b x.zs.length x.cb).ownBlock = some k
abbrev Hp.v (x : Hp) : Value := heV x.a x.vs.length x.ca x.b x.zs.length x.cb
def hpCells (x : Hp) : List Value := [.slice x.a x.vs.length x.ca, .slice x.b x.zs.length x.cb]
theorem hpCells_length (x : Hp) : (hpCells x).length = 2 := rfl
abbrev hpVals (hs : List Hp) : List Value := fl hpCells hs
def Hp.At (W : World) (x : Hp) : Prop := HeapAt W x.a x.b x.vs x.zs
def Hp.In (lo hi : Nat) (W : World) (x : Hp) : Prop := HeapIn lo hi W x.a x.ca x.b x.cb (intVals x.vs) (intVals x.zs)
theorem Hp.In.at_ {lo hi : Nat} {W : World} {x : Hp} (h : x.In lo hi W) : x.At W := HeapIn.rows h
theorem Hp.At.below {W W' : World} {x : Hp} (h : x.At W) (hb : Below W.heap.size W W') : x.At W' := HeapAt.below h hb (Nat.le_refl _)
theorem Hp.In.has_lt {lo hi : Nat} {W : World} {x : Hp} (h : x.In lo hi W) {k : Nat} (hk : x.has k) : lo ≤ k ∧ k < hi := by
  rcases hk with hk | hk
  · exact ⟨(h.v.2.1.lt k (by rw [intVals_length]; exact hk)).1, h.v.2.2 k (by rw [intVals_length]; exact hk)⟩
  · exact ⟨(h.z.2.1.lt k (by rw [intVals_length]; exact hk)).1, h.z.2.2 k (by rw [intVals_length]; exact hk)⟩

def hpSize (x : Hp) : Nat := x.vs.length + x.zs.length
def hpTotal (hs : List Hp) : Nat := (hs.map hpSize).sum
theorem hpTotal_next (hs : List Hp) (k : Nat) (h : k < hs.length) : hpTotal (hs.take (k + 1)) = hpTotal (hs.take k) + hpSize hs[k] := by
  unfold hpTotal
  rw [take_next hs k h, List.map_append, List.sum_append, List.map_cons, List.map_nil, List.sum_cons, List.sum_nil, Nat.add_zero]
theorem hpTotal_take : ∀ (hs : List Hp) (k : Nat), hpTotal (hs.take k) ≤ hpTotal hs
  | [], k => by simp [hpTotal]
  | x :: hs, 0 => by simp [hpTotal]
  | x :: hs, k + 1 => by
    have := hpTotal_take hs k
    simp only [hpTotal, List.take_succ_cons, List.map_cons, List.sum_cons] at *
    omega
/-- A row of heaps that may be read. -/
structure HeapsAt (W : World) (a : Option Addr) (hs : List Hp) : Prop where
  row : Row W W.heap.size a (hpVals hs)
  each : ∀ x ∈ hs, x.At W
theorem HeapsAt.below {W W' : World} {a : Option Addr} {hs : List Hp} (h : HeapsAt W a hs) (hb : Below W.heap.size W W') : HeapsAt W' a hs :=
  ⟨(h.row.below hb).grow hb.size, fun x hx => (h.each x hx).below hb⟩

section
variable {lo hi : Nat} {W W' : World} {x : Hp} {hs : List Hp}
theorem OwnIn.same {e size n : Nat} {v : Value} {xs : List Value} (h : OwnIn lo hi W e size v n xs) (hz : W.heap.size ≤ W'.heap.size) (hb : ∀ k, v.ownBlock = some k → W'.heap[k]? = W.heap[k]?) : OwnIn lo hi W' e size v n xs := by
  refine ⟨Nat.le_trans h.1 hz, ⟨h.2.1.1, h.2.1.2.imp id ?_⟩, h.2.2⟩
  rintro ⟨g, cap, cur, rfl, hl, hgc, r⟩
  exact ⟨g, cap, cur, rfl, hl, (hb g rfl).trans hgc, r⟩
theorem Hp.In.same (h : x.In lo hi W) (hz : W.heap.size ≤ W'.heap.size) (hb : ∀ k, x.has k → W'.heap[k]? = W.heap[k]?) : x.In lo hi W' :=
  ⟨OwnIn.same h.v hz fun k hk => hb k (.inl (by rw [intVals_length] at hk; exact hk)), OwnIn.same h.z hz fun k hk => hb k (.inr (by rw [intVals_length] at hk; exact hk)), h.apart⟩
theorem Hp.In.mono {lo' hi' : Nat} (h : x.In lo hi W) (h1 : lo' ≤ lo) (h2 : hi ≤ hi') (h3 : hi' ≤ W.heap.size) : x.In lo' hi' W := HeapIn.mono h h1 h2 h3
/-- Heaps that calls made: their rows may be written, and no two share a block. -/
structure HeapsIn (lo : Nat) (W : World) (hs : List Hp) : Prop where
  each : ∀ x ∈ hs, x.In lo W.heap.size W
  apart : hs.Pairwise fun x y => ∀ k, x.has k → ¬ y.has k
theorem HeapsIn.nil : HeapsIn lo W [] := ⟨fun x hx => by simp at hx, List.Pairwise.nil⟩
theorem HeapsIn.same (h : HeapsIn lo W hs) (hz : W.heap.size ≤ W'.heap.size) (hb : ∀ x ∈ hs, ∀ k, x.has k → W'.heap[k]? = W.heap[k]?) : HeapsIn lo W' hs :=
  ⟨fun x hx => ((h.each x hx).same hz (hb x hx)).mono (Nat.le_refl _) hz (Nat.le_refl _), h.apart⟩
theorem HeapsIn.has_lt (h : HeapsIn lo W hs) (hx : x ∈ hs) {k : Nat} (hk : x.has k) : lo ≤ k ∧ k < W.heap.size := (h.each x hx).has_lt hk
theorem HeapsIn.below (h : HeapsIn lo W hs) (hb : Below W.heap.size W W') : HeapsIn lo W' hs := h.same hb.size fun _ hx k hk => hb.block k (h.has_lt hx hk).2
theorem HeapsIn.mono {lo' : Nat} (h : HeapsIn lo W hs) (h1 : lo' ≤ lo) : HeapsIn lo' W hs := ⟨fun x hx => (h.each x hx).mono h1 (Nat.le_refl _) (Nat.le_refl _), h.apart⟩
theorem HeapsIn.snoc (h : HeapsIn lo W hs) (hx : x.In lo W.heap.size W) (hn : ∀ y ∈ hs, ∀ k, y.has k → ¬ x.has k) : HeapsIn lo W (hs ++ [x]) := by
  refine ⟨fun y hy => ?_, ?_⟩
  · rcases List.mem_append.1 hy with hy | hy
    · exact h.each y hy
    · rw [List.mem_singleton.1 hy]
      exact hx
  · rw [List.pairwise_append]
    exact ⟨h.apart, List.pairwise_singleton _ _, fun y hy z hz k hk => by rw [List.mem_singleton.1 hz]; exact hn y hy k hk⟩
theorem HeapsIn.at_ (h : HeapsIn lo W hs) (hx : x ∈ hs) : x.At W := (h.each x hx).at_
/-- One of the heaps is written: the others stay. -/
theorem HeapsIn.set (h : HeapsIn lo W hs) {i : Nat} (hi : i < hs.length) {y : Hp} (hz : W.heap.size ≤ W'.heap.size) (hb : ∀ k, k < W.heap.size → ¬ hs[i].has k → W'.heap[k]? = W.heap[k]?) (hy : y.In lo W'.heap.size W') (hh : ∀ k, y.has k → hs[i].has k) : HeapsIn lo W' (hs.set i y) := by
  have hp := List.pairwise_iff_getElem.1 h.apart
  have hne : ∀ j (hj : j < hs.length), j ≠ i → ∀ k, hs[j].has k → ¬ hs[i].has k := by
    intro j hj hji k hk hki
    rcases Nat.lt_or_gt_of_ne hji with hlt | hgt
    · exact hp j i hj hi hlt k hk hki
    · exact hp i j hi hj hgt k hki hk
  refine ⟨fun x hx => ?_, ?_⟩
  · obtain ⟨j, hj, rfl⟩ := List.getElem_of_mem hx
    rw [List.length_set] at hj
    rw [List.getElem_set]
    by_cases hij : i = j
    · rw [if_pos hij]
      exact hy
    · rw [if_neg hij]
      have hm : hs[j] ∈ hs := List.getElem_mem hj
      exact ((h.each _ hm).same hz fun k hk => hb k (h.has_lt hm hk).2 (hne j hj (Ne.symm hij) k hk)).mono (Nat.le_refl _) hz (Nat.le_refl _)
  · rw [List.pairwise_iff_getElem]
    intro p q hp' hq' hpq k
    rw [List.length_set] at hp' hq'
    rw [List.getElem_set, List.getElem_set]
    by_cases h1 : i = p
    · rw [if_pos h1, if_neg (by omega)]
      intro hk hk2
      exact hne q hq' (by omega) k hk2 (hh k hk)
    · rw [if_neg h1]
      by_cases h2 : i = q
      · rw [if_pos h2]
        intro hk hk2
        exact hne p hp' (by omega) k hk (hh k hk2)
      · rw [if_neg h2]
        exact hp p q hp' hq' hpq k
theorem Hp.In.store {b i : Nat} {u : Value} (h : x.In lo hi W) (hb : b < lo) : x.In lo hi (W.setCell ⟨b, i, none⟩ u) :=
  h.same (by simp) fun k hk => Below.heap_setCell _ _ _ _ (by have := (h.has_lt hk).1; show k ≠ b; omega)
theorem HeapsIn.store {b i : Nat} {u : Value} (h : HeapsIn lo W hs) (hb : b < lo) : HeapsIn lo (W.setCell ⟨b, i, none⟩ u) hs :=
  h.same (by simp) fun x hx k hk => Below.heap_setCell _ _ _ _ (by have := (h.has_lt hx hk).1; show k ≠ b; omega)
end

/-- Only blocks for which S holds may have turned; new ones may be there. -/
structure Only (S : Nat → Prop) (w w' : World) : Prop where
  os : w'.os = w.os
  tape : w'.tape = w.tape
  output : w'.output = w.output
  size : w.heap.size ≤ w'.heap.size
  block : ∀ k, k < w.heap.size → ¬ S k → w'.heap[k]? = w.heap[k]?
section
variable {S S' : Nat → Prop} {w w' w'' : World}
theorem Only.of_below (h : Below w.heap.size w w') : Only S w w' := ⟨h.os, h.tape, h.output, h.size, fun k hk _ => h.block k hk⟩
theorem Only.refl : Only S w w := Only.of_below (Below.refl _ _)
theorem Only.trans (h : Only S w w') (k : Only S w' w'') : Only S w w'' :=
  ⟨k.os.trans h.os, k.tape.trans h.tape, k.output.trans h.output, Nat.le_trans h.size k.size, fun j hj hd => (k.block j (Nat.lt_of_lt_of_le hj h.size) hd).trans (h.block j hj hd)⟩
theorem Only.of_grown {r : Option Nat} (h : w.grownBy w' r) (hr : ∀ k, r = some k → S k) : Only S w w' := ⟨h.os, h.tape, h.output, h.size, fun k hk hd => h.block k hk fun e => hd (hr k e.symm)⟩
theorem Only.mono (h : Only S w w') (hS : ∀ k, S k → S' k) : Only S' w w' := ⟨h.os, h.tape, h.output, h.size, fun k hk hd => h.block k hk fun hs => hd (hS k hs)⟩
theorem Only.below {B : Nat} {w0 : World} (h : Only S w w') (hb : Below B w0 w) (hB : B ≤ w.heap.size) (hS : ∀ k, S k → B ≤ k) : Below B w0 w' :=
  ⟨h.os.trans hb.os, h.tape.trans hb.tape, h.output.trans hb.output, Nat.le_trans hb.size h.size, fun k hk => (h.block k (by omega) fun hs => by have := hS k hs; omega).trans (hb.block k hk)⟩
theorem Only.set {b i : Nat} {u : Value} (hb : S b) : Only S w (w.setCell ⟨b, i, none⟩ u) :=
  ⟨rfl, rfl, rfl, by simp, fun k _ hd => Below.heap_setCell _ _ _ _ (by show k ≠ b; exact fun e => hd (e ▸ hb))⟩
end
end Go.Proofs.YtpmmjaceehlpiaaGreatDoor
/-
  The edges that begin at a point, by the program and by the model: their numbers in order.
-/
namespace Go.Proofs.YtpmmjaceehlpiaaGreatDoor
open Go Go.RowKit

def fromsOf (es : List Ed) : List Int := es.map Ed.f
theorem fromsOf_length (es : List Ed) : (fromsOf es).length = es.length := by simp [fromsOf]
theorem fromsOf_at (es : List Ed) (k : Nat) (h : k < es.length) (h' : k < (fromsOf es).length) : (fromsOf es)[k] = es[k].f := by simp [fromsOf]
theorem fromsOf_take (es : List Ed) (k : Nat) (h : k < es.length) : fromsOf (es.take (k + 1)) = fromsOf (es.take k) ++ [es[k].f] := by
  unfold fromsOf
  rw [take_next es k h, List.map_append, List.map_cons, List.map_nil]
theorem oneCell_is {w : World} {e : TypeId} {N : Nat} (hN : N = w.heap.size) (x : Value) : ∀ (j : Nat) (u : Value), [x][j]? = some u → (w.alloc (.cells #[x] e)).cell? ((⟨N, 0, none⟩ : Addr).add j) = some u := by
  subst hN
  exact oneCell_at x
theorem own_form {w : World} {base e size n : Nat} {v : Value} {xs : List Value} (h : w.ownsRow base e size v n xs) : ∃ a c, v = .slice a n c := by
  rcases h.2 with ⟨rfl, rfl⟩ | ⟨g, cap, cur, rfl, _⟩
  · exact ⟨_, _, rfl⟩
  · exact ⟨_, _, rfl⟩
theorem intInfoE : (Tryz.prog.info? 3).map (fun i => (i.zero, i.size, i.bytes)) = some (some (.int .i64 0), 1, 8) := by kernel_rfl

set_option maxRecDepth 100000 in
set_option maxHeartbeats 1600000 in
theorem implEdgesFrom (a b : Option Addr) (na ca cb : Nat) (es : List Ed) (p n : Int) (w : World) (hlen : es.length ≤ 1048576) (hrow : Row w w.heap.size b (edVals es)) :
    Calls Tryz.prog 54 #[.agg #[.slice a na ca, .int .i64 p, .slice b es.length cb], .int .i64 n] w (Built w.heap.size 3 (intVals (posFrom n 0 (fromsOf es))) w) := by
  obtain ⟨i0, hi, hz0, hz1, hz2⟩ := info_parts intInfoE
  go_enter Tryz.func54, Tryz.ntmps54
  go_wp2
  go_loopw [5, 11] (fun v i wr => ∃ k : Nat, k ≤ es.length ∧ i = .int .i64 k ∧ wr.ownsRow w.heap.size 3 1 v k (intVals (fromsOf (es.take k))) ∧ Below w.heap.size w wr)
    (fun _ i _ => es.length - (intOf i).toNat)
  case atStart => exact ⟨0, Nat.zero_le _, rfl, ⟨rfl, .inl ⟨rfl, rfl⟩⟩, (Below.refl _ _).alloc (Nat.le_refl _) _⟩
  case round =>
    obtain ⟨k, hk, rfl, hown, hbw⟩ := hrel
    have Hown := Lib.hid hown
    clear hown
    by_cases hlt : k < es.length
    · obtain ⟨b0, o, rfl, hbW, hE0⟩ := hrow.edge k hlt
      obtain ⟨c0, c1, c2, c3, c4⟩ := hE0.below hbw hbW
      have htk := fromsOf_take es k hlt
      generalize es[k] = x at *
      have Htk := Lib.hid htk
      have hsz := hbw.size
      clear hE0 htk
      go_wp2_with (at_builtin; refine wpList_append_own _ rfl (.tmp 15) (.tmp 18) 28 rfl w.heap.size 3 i0 (.int .i64 0) 1 8 Tryz.underlying28 hi hz0 hz1 hz2 rfl (by decide) _ k _ rfl ((Hown.out.alloc _).alloc _) ⟨wr.heap.size + 1, 0, none⟩ 1 1 [.int .i64 x.f] rfl rfl (oneCell_is (by simp) _) (oneCell_int _) (by unfold maxLen; omega) (by omega) (by simp; omega) ?_; intro v2 w2 hown2 hg2 _; have hb2 := own_below ((Hown.out.alloc _).alloc _) hg2 (by simp; omega) ((hbw.alloc hbw.size _).alloc (by simp; omega) _); clear hg2)
      go_roundw
      case rel => exact ⟨k + 1, by omega, by go_num, by rw [Htk.out, intVals_snoc]; exact hown2, hb2⟩
      case measure => simp [intOf]; omega
    · have hk' : k = es.length := by omega
      subst hk'
      rw [List.take_length] at Hown
      obtain ⟨a2, c2, rfl⟩ := own_form Hown.out
      have hR := Row.owned Hown.out
      go_wp2_with fail
      rw [← fromsOf_length es]
      refine (implPositions a2 c2 (fromsOf es) n _ (by rw [fromsOf_length]; exact hlen) (by simpa using hR)).mono ?_
      rintro e w2 ⟨ag, cg, rfl, hcg, hg, hb2⟩
      have hb := hbw.trans (hb2.mono hbw.size)
      go_wp2
      go_ret
      exact ⟨ag, cg, rfl, hcg, own_base hg hbw.size, hb⟩

set_option maxRecDepth 100000 in
set_option maxHeartbeats 1600000 in
theorem specEdgesFrom (a b : Option Addr) (na ca cb : Nat) (es : List Ed) (p n : Int) (w : World) (hlen : es.length ≤ 1048576) (hrow : Row w w.heap.size b (edVals es)) :
    Calls Tryz.prog 47 #[.agg #[.slice a na ca, .int .i64 p, .slice b es.length cb], .int .i64 n] w (Built w.heap.size 3 (intVals (posFrom n 0 (fromsOf es))) w) := by
  obtain ⟨i0, hi, hz0, hz1, hz2⟩ := info_parts intInfoE
  go_enter Tryz.func47, Tryz.ntmps47
  go_wp2
  obtain ⟨W0, hW0, hb0, hs0, hA0⟩ := one_box w (.slice a na ca) (.int .i64 p) (.slice b es.length cb) 27
  rw [hW0]
  go_loopw [5, 6] (fun v i wr => ∃ (k : Nat) (qs : List Int), k ≤ es.length ∧ i = .int .i64 k ∧ qs.length ≤ k ∧ qs ++ posFrom n k ((fromsOf es).drop k) = posFrom n 0 (fromsOf es) ∧ wr.ownsRow W0.heap.size 3 1 v qs.length (intVals qs) ∧ Below W0.heap.size W0 wr)
    (fun _ i _ => es.length - (intOf i).toNat)
  case atStart => exact ⟨0, [], Nat.zero_le _, rfl, Nat.le_refl _, rfl, (by simpa [← hW0, intVals] using World.ownsRow_made (e := 3) (size := 1) W0 #[] 0 (Nat.le_refl _) (Nat.zero_le _) rfl), (Below.refl _ _).alloc (Nat.le_refl _) _⟩
  case round =>
    obtain ⟨k, qs, hk, rfl, hql, hq, hown, hbw⟩ := hrel
    have Hown := Lib.hid hown
    clear hown
    obtain ⟨d0, d1, d2⟩ := hA0.keep hs0 hbw
    have hsz := hbw.size
    have hbw' : Below w.heap.size w wr := hb0.trans (hbw.mono hb0.size)
    by_cases hlt : k < es.length
    · obtain ⟨b0, o, rfl, hbW, hE0⟩ := hrow.edge k hlt
      obtain ⟨c0, _, _, _, _⟩ := hE0.below hbw' hbW
      have hlt' : k < (fromsOf es).length := by rw [fromsOf_length]; exact hlt
      have hat := fromsOf_at es k hlt hlt'
      by_cases he : (fromsOf es)[k] = n
      · rw [pos_hit hlt' he] at hq
        have Hq := Lib.hid hq
        rw [hat] at he
        have hd : (es[k].f == n) = true := by simpa using he
        generalize es[k] = x at *
        clear hq he hE0 hat
        go_wp2_with (at_builtin; refine wpList_append_own _ rfl (.tmp 23) (.tmp 25) 28 rfl W0.heap.size 3 i0 (.int .i64 0) 1 8 Tryz.underlying28 hi hz0 hz1 hz2 rfl (by decide) _ qs.length _ rfl (Hown.out.alloc _) ⟨wr.heap.size, 0, none⟩ 1 1 [.int .i64 (k : Int)] rfl rfl (oneCell_at _) (oneCell_int _) (by unfold maxLen; omega) (by omega) (by simp; omega) ?_; intro v2 w2 hown2 hg2 _; have hb2 := own_below (Hown.out.alloc _) hg2 (by simp; omega) (hbw.alloc hbw.size _); clear hg2)
        go_roundw
        case rel => exact ⟨k + 1, qs ++ [(k : Int)], by omega, by go_num, by simp; omega, by rw [← Hq.out]; simp, by rw [intVals_snoc, List.length_append, List.length_singleton]; exact hown2, hb2⟩
        case measure => simp [intOf]; omega
      · rw [pos_miss hlt' he] at hq
        have Hq := Lib.hid hq
        rw [hat] at he
        have hd : (es[k].f == n) = false := by simpa using he
        generalize es[k] = x at *
        clear hq he hE0 hat
        go_wp2
        go_roundw
        case rel => exact ⟨k + 1, qs, by omega, by go_num, by omega, Hq.out, Hown.out, hbw⟩
        case measure => simp [intOf]; omega
    · rw [pos_end (by rw [fromsOf_length]; omega), List.append_nil] at hq
      have Hq := Lib.hid hq
      clear hq
      go_wp2
      go_ret
      rw [← Hq.out]
      exact built_end (intVals_length _).symm (own_base Hown.out hb0.size) hbw'
end Go.Proofs.YtpmmjaceehlpiaaGreatDoor
/-
  The law's own copy of a row of heaps, its size guard, its comparison.
-/
namespace Go.Proofs.YtpmmjaceehlpiaaGreatDoor
open Go Go.RowKit

theorem heapInfo : (Tryz.prog.info? 30).map (fun i => (i.zero, i.size, i.bytes)) = some (some (.agg #[.slice none 0 0, .slice none 0 0]), 2, 48) := by kernel_rfl

theorem set2_take (xs : List Value) (o : Nat) (u v : Value) (h : o + 2 ≤ xs.length) : ((xs.set o u).set (o + 1) v).take (o + 2) = xs.take o ++ [u, v] := by
  apply List.ext_getElem?
  intro j
  rcases Nat.lt_or_ge j o with hj | hj
  · rw [List.getElem?_append_left (by simp; omega), List.getElem?_take_of_lt (by omega), List.getElem?_take_of_lt hj]
    simp only [List.getElem?_set]
    rw [if_neg (by omega), if_neg (by omega)]
  · rw [List.getElem?_append_right (by simp; omega), List.length_take, Nat.min_eq_left (by omega)]
    rcases Nat.lt_or_ge j (o + 2) with hj5 | hj5
    · obtain ⟨i, rfl, hi⟩ : ∃ i, j = o + i ∧ i < 2 := ⟨j - o, by omega, by omega⟩
      rw [List.getElem?_take_of_lt hj5, Nat.add_sub_cancel_left]
      simp only [List.getElem?_set, List.length_set]
      match i, hi with
      | 0, _ => simp; omega
      | 1, _ => simp; omega
    · rw [List.getElem?_eq_none (by rw [List.length_take]; omega), List.getElem?_eq_none (by simp; omega)]

theorem HeapsAt.item {W : World} {a : Option Addr} {hs : List Hp} (h : HeapsAt W a hs) (k : Nat) (hk : k < hs.length) :
    ∃ b o, a = some ⟨b, o, none⟩ ∧ b < W.heap.size ∧ W.cell? ⟨b, o + k * 2, none⟩ = some (.slice hs[k].a hs[k].vs.length hs[k].ca) ∧ W.cell? ⟨b, o + k * 2 + 1, none⟩ = some (.slice hs[k].b hs[k].zs.length hs[k].cb) ∧ hs[k].At W := by
  obtain ⟨b, o, rfl, hb, hc⟩ := Row.item hpCells_length (by omega) h.row k hk
  exact ⟨b, o, rfl, hb, hc 0 _ rfl, by rw [Nat.add_assoc]; exact hc 1 _ rfl, h.each _ (List.getElem_mem hk)⟩

/-- A new row that holds copies of the heaps; nothing old has turned. -/
def CopyHeaps (hs : List Hp) (w : World) (e : Ending) (w' : World) : Prop :=
  ∃ ks : List Hp, ks.map Hp.body = hs.map Hp.body ∧ e = .returned (.slice (some ⟨w.heap.size, 0, none⟩) ks.length ks.length) ∧
    w'.ownsRow w.heap.size 30 2 (.slice (some ⟨w.heap.size, 0, none⟩) ks.length ks.length) ks.length (hpVals ks) ∧ HeapsIn (w.heap.size + 1) w' ks ∧ Below w.heap.size w w'

set_option maxHeartbeats 800000 in
theorem toHeaps (a : Option Addr) (cap : Nat) (hs : List Hp) (w : World) (hn : hs.length ≤ 1099511627776) (hl : ∀ x ∈ hs, x.vs.length ≤ 1099511627776 ∧ x.zs.length ≤ 1099511627776) (hrow : HeapsAt w a hs) :
    Calls Tryz.prog 37 #[.slice a hs.length cap] w (CopyHeaps hs w) := by
  obtain ⟨i0, hi, hz0, hz1, hz2⟩ := info_parts heapInfo
  go_enter Tryz.func37, Tryz.ntmps37
  go_wp2_with (at_make; refine wpList_make_full _ rfl _ _ 38 rfl w.heap.size 30 i0 _ 2 Tryz.underlying38 hi hz0 hz1 _ _ _ _ hs.length rfl rfl rfl rfl ?b2 ?b3 (Nat.le_refl _) ?_)
  case b2 => rw [hz2]; omega
  case b3 => unfold maxLen; omega
  intro w0 hown0 hgrow0
  go_wp2
  go_loopw [4] (fun i wr => ∃ (k : Nat) (ks : List Hp) (ys : List Value), k ≤ hs.length ∧ i = .int .i64 k ∧ ks.map Hp.body = (hs.take k).map Hp.body ∧ ys.take (k * 2) = hpVals ks ∧ ys.length = hs.length * 2 ∧
      wr.ownsRow w.heap.size 30 2 (.slice (some ⟨w.heap.size, 0, none⟩) hs.length hs.length) hs.length ys ∧ HeapsIn (w.heap.size + 1) wr ks ∧ Below w.heap.size w wr)
    (fun i _ => hs.length - (intOf i).toNat)
  case atStart => exact ⟨0, [], _, Nat.zero_le _, rfl, rfl, by simp [fl], by simpa using hown0.1, hown0, HeapsIn.nil, (Below.refl _ _).grown hgrow0 (Nat.le_refl _) (fun k h => by cases h)⟩
  case round =>
    obtain ⟨k, ks, ys, hk, rfl, hbd, hys, hyl, hown, hks, hb⟩ := hrel
    by_cases hlt : k < hs.length
    · obtain ⟨b, o, rfl, hbW, c0, c1, hat⟩ := (hrow.below hb).item k hlt
      have hx := hl _ (List.getElem_mem hlt)
      have htk := take_next hs k hlt
      generalize hs[k] = x at *
      have Hbd := Lib.hid hbd
      have Hys := Lib.hid hys
      have Hyl := Lib.hid hyl
      have Htk := Lib.hid htk
      have Hown := Lib.hid hown
      have Hks := Lib.hid hks
      have hgs : w.heap.size < wr.heap.size := (hown.lt _ rfl).2
      clear hbd hys hyl hown htk hks
      go_wp2_with fail
      refine (toHeap x.a x.b x.ca x.cb x.vs x.zs _ hx.1 hx.2 hat).mono ?_
      rintro e w1 ⟨a1, b1, rfl, hin1, hb1⟩
      have ho1 := own_keeps Hown.out hb1
      have hB1 : Below w.heap.size w w1 := hb.trans (hb1.mono hb.size)
      have hl1 : ys.length = hs.length * 2 := Hyl.out
      obtain ⟨old0, hold0⟩ : ∃ old, w1.cell? ⟨w.heap.size, k * 2, none⟩ = some old := ⟨_, (ho1.cellAt (k * 2) (by omega)).trans (List.getElem?_eq_getElem (by omega))⟩
      obtain ⟨old1, hold1⟩ : ∃ old, w1.cell? ⟨w.heap.size, k * 2 + 1, none⟩ = some old := ⟨_, (ho1.cellAt (k * 2 + 1) (by omega)).trans (List.getElem?_eq_getElem (by omega))⟩
      have hf0 := ho1.frozenAt (k * 2)
      have hf1 := ho1.frozenAt (k * 2 + 1)
      have hz1 := hb1.size
      have Ho := Lib.hid ho1
      have Hin := Lib.hid hin1
      have Hk1 := Lib.hid (Hks.out.below hb1)
      have Hnew := Lib.hid (show ∀ y ∈ ks, ∀ j, y.has j → j < wr.heap.size from fun y hy j hj => (Hks.out.has_lt hy hj).2)
      clear ho1 hl1 hin1 hb1 c0 c1
      go_wp2
      go_roundw
      case rel =>
        have h0 := (Ho.out.stored (k * 2) (.slice a1 x.vs.length x.vs.length)).1
        have h1 := (h0.stored (k * 2 + 1) (.slice b1 x.zs.length x.zs.length)).1
        have hg : w.heap.size ≤ w.heap.size := Nat.le_refl _
        have hy0 : Hp.In wr.heap.size w1.heap.size w1 ⟨a1, x.vs.length, b1, x.zs.length, x.vs, x.zs⟩ := Hin.out
        have hy1 : Hp.In (w.heap.size + 1) w1.heap.size w1 ⟨a1, x.vs.length, b1, x.zs.length, x.vs, x.zs⟩ := hy0.mono (by omega) (Nat.le_refl _) (Nat.le_refl _)
        have hs2 := (Hk1.out.snoc hy1 (fun y hy j hj hj2 => by have := Hnew.out y hy j hj; have := (hy0.has_lt hj2).1; omega))
        refine ⟨k + 1, ks ++ [⟨a1, x.vs.length, b1, x.zs.length, x.vs, x.zs⟩], (ys.set (k * 2) (.slice a1 x.vs.length x.vs.length)).set (k * 2 + 1) (.slice b1 x.zs.length x.zs.length), by omega, by go_num, ?_, ?_, ?_, h1, (hs2.store (Nat.lt_succ_self _)).store (Nat.lt_succ_self _), (hB1.setCell hg _).setCell hg _⟩
        · rw [Htk.out, List.map_append, List.map_append, Hbd.out]
          rfl
        · rw [Nat.add_mul, Nat.one_mul, set2_take _ _ _ _ (by rw [Hyl.out]; omega), Hys.out]
          exact (fl_snoc (c := hpCells) ks ⟨a1, x.vs.length, b1, x.zs.length, x.vs, x.zs⟩).symm
        · rw [List.length_set, List.length_set]
          exact Hyl.out
      case measure => simp [intOf]; omega
    · have hk' : k = hs.length := by omega
      have hkl : ks.length = hs.length := by
        have h1 := congrArg List.length hbd
        simp at h1
        omega
      have hfull : ys = hpVals ks := by
        have h1 := hys
        rw [hk', List.take_of_length_le (by rw [hyl]; exact Nat.le_refl _)] at h1
        exact h1
      rw [hk', List.take_length] at hbd
      rw [hfull, ← hkl] at hown
      have HE := Lib.hid (show CopyHeaps hs w (.returned (.slice (some ⟨w.heap.size, 0, none⟩) hs.length hs.length)) wr from ⟨ks, hbd, by rw [hkl], hown, hks, hb⟩)
      clear hk' hkl hfull hbd hys hyl hown hks
      go_wp2
      go_ret
      exact HE.out

/-- The guard's answer over a row of heaps: where it is not negative, their cells and their number fit into the allowance. -/
def SzHeapsEnd (hs : List Hp) (left : Nat) (w : World) (e : Ending) (w' : World) : Prop :=
  ∃ r : Int, e = .returned (.int .i64 r) ∧ Below w.heap.size w w' ∧ r ≤ left ∧ (0 ≤ r → (hs.length : Int) + hpTotal hs + r = left)
set_option maxHeartbeats 800000 in
theorem szHeaps (a : Option Addr) (cap : Nat) (hs : List Hp) (left : Nat) (w : World) (hl : left ≤ 1099511627776) (hlen : hs.length ≤ maxLen) (hws : ∀ x ∈ hs, x.vs.length ≤ maxLen ∧ x.zs.length ≤ maxLen) (hrow : HeapsAt w a hs) :
    Calls Tryz.prog 36 #[.slice a hs.length cap, .int .i64 left] w (SzHeapsEnd hs left w) := by
  unfold maxLen at hlen
  by_cases h0 : left < hs.length
  · have hb : (left : Int) - hs.length < 0 := by omega
    go_enter Tryz.func36, Tryz.ntmps36
    go_wp2
    go_ret
    exact ⟨-1, rfl, Below.refl _ _, by omega, fun h => by omega⟩
  · have hb : ¬ (left : Int) - hs.length < 0 := by omega
    go_enter Tryz.func36, Tryz.ntmps36
    go_wp2
    go_loopw [1, 5] (fun l i wr => ∃ k m : Nat, k ≤ hs.length ∧ i = .int .i64 k ∧ l = .int .i64 m ∧ hs.length + hpTotal (hs.take k) + m = left ∧ Below w.heap.size w wr) (fun _ i _ => hs.length - (intOf i).toNat)
    case atStart => exact ⟨0, left - hs.length, Nat.zero_le _, rfl, by congr 1; omega, by simp [hpTotal]; omega, Below.refl _ _⟩
    case round =>
      obtain ⟨k, m, hk, rfl, rfl, hsum, hb⟩ := hrel
      by_cases hlt : k < hs.length
      · obtain ⟨b, o, rfl, hbW, c0, c1, hat⟩ := (hrow.below hb).item k hlt
        have hok := hws hs[k] (List.getElem_mem hlt)
        have hnx := hpTotal_next hs k hlt
        generalize hs[k] = x at *
        have Hsum := Lib.hid hsum
        have Hnx := Lib.hid hnx
        have hm : m ≤ 1099511627776 := by omega
        clear hsum hnx hat
        go_wp2_with fail
        refine (szHeap x.a x.b x.ca x.cb _ _ m _ hm hok.1 hok.2).mono ?_
        rintro e w1 ⟨r, rfl, hb1, hr, hsz⟩
        have hB := hb.trans (hb1.mono hb.size)
        have Hsz := Lib.hid hsz
        clear hsz c0 c1
        by_cases hneg : r < 0
        · go_wp2
          go_ret
          exact ⟨-1, rfl, hB, by omega, fun h => by omega⟩
        · obtain ⟨r', rfl⟩ : ∃ r' : Nat, r = (r' : Int) := ⟨r.toNat, by omega⟩
          go_wp2
          go_roundw
          case rel =>
            have h1 := Hsum.out
            have h2 := Hnx.out
            have h3 := Hsz.out (by omega)
            exact ⟨k + 1, r', by omega, by go_num, rfl, by simp only [hpSize] at h2; omega, hB⟩
          case measure => simp [intOf]; omega
      · have hk' : k = hs.length := by omega
        have Hk := Lib.hid hk'
        have Hsum := Lib.hid hsum
        clear hk' hsum
        go_wp2
        go_ret
        have h1 := Hsum.out
        rw [Hk.out, List.take_length] at h1
        exact ⟨m, rfl, hb, by omega, fun _ => by omega⟩

set_option maxHeartbeats 800000 in
theorem eqHeapRows (a b : Option Addr) (ca cb : Nat) (hs ks : List Hp) (w : World) (hn : hs.length ≤ maxLen) (hl : ∀ x ∈ hs, x.vs.length ≤ maxLen ∧ x.zs.length ≤ maxLen) (hbd : ks.map Hp.body = hs.map Hp.body) (ha : HeapsAt w a hs) (hb : HeapsAt w b ks) :
    Calls Tryz.prog 39 #[.slice a hs.length ca, .slice b ks.length cb] w (GaveX (.bool true) w) := by
  unfold maxLen at hn
  have hkl : ks.length = hs.length := by
    have h1 := congrArg List.length hbd
    simpa using h1
  rw [hkl]
  go_enter Tryz.func39, Tryz.ntmps39
  go_wp2
  go_loopw [5] (fun i wr => ∃ k : Nat, k ≤ hs.length ∧ i = .int .i64 k ∧ Below w.heap.size w wr) (fun i _ => hs.length - (intOf i).toNat)
  case atStart => exact ⟨0, Nat.zero_le _, rfl, Below.refl _ _⟩
  case round =>
    obtain ⟨k, hk, rfl, hbw⟩ := hrel
    by_cases hlt : k < hs.length
    · have hlk : k < ks.length := by omega
      obtain ⟨ba, oa, rfl, hba, _, _, _⟩ := ha.item k hlt
      obtain ⟨bb, ob, rfl, hbb, _, _, _⟩ := hb.item k hlk
      have hx := hl hs[k] (List.getElem_mem hlt)
      have he : ks[k].body = hs[k].body := by
        have h1 : (ks.map Hp.body)[k]? = (hs.map Hp.body)[k]? := by rw [hbd]
        simpa [hlt, hlk] using h1
      have hA := fun W h => (ha.below (W' := W) h).item k hlt
      have hB := fun W h => (hb.below (W' := W) h).item k hlk
      generalize hs[k] = x at *
      generalize ks[k] = y at *
      obtain ⟨ya, yca, yb, ycb, yv, yz⟩ := y
      simp only [Hp.body, Prod.mk.injEq] at he
      obtain ⟨rfl, rfl⟩ := he
      have hS : ∀ W, Below w.heap.size w W → (W.cell? ⟨ba, oa + k * 2, none⟩ = some (.slice x.a x.vs.length x.ca) ∧ W.cell? ⟨ba, oa + k * 2 + 1, none⟩ = some (.slice x.b x.zs.length x.cb)) ∧ (W.cell? ⟨bb, ob + k * 2, none⟩ = some (.slice ya x.vs.length yca) ∧ W.cell? ⟨bb, ob + k * 2 + 1, none⟩ = some (.slice yb x.zs.length ycb)) := by
        intro W h
        obtain ⟨b1, o1, e1, _, p0, p1, _⟩ := hA W h
        obtain ⟨b2, o2, e2, _, q0, q1, _⟩ := hB W h
        injection e1 with e1
        injection e1 with e1 e1' _
        injection e2 with e2
        injection e2 with e2 e2' _
        subst e1 e1' e2 e2'
        exact ⟨⟨p0, p1⟩, q0, q1⟩
      have hR : ∀ W, Below w.heap.size w W → HeapAt W x.a x.b x.vs x.zs ∧ HeapAt W ya yb x.vs x.zs := fun W h => by
        obtain ⟨_, _, _, _, _, _, p⟩ := hA W h
        obtain ⟨_, _, _, _, _, _, q⟩ := hB W h
        exact ⟨p, q⟩
      have HS := Lib.hid hS
      have HR := Lib.hid hR
      have HA := Lib.hid ha
      have HB := Lib.hid hb
      clear hA hB hS hR ha hb hbd
      go_wp2_with fail
      go_region_held3 (fun W => (W.cell? ⟨ba, oa + k * 2, none⟩ = some (.slice x.a x.vs.length x.ca) ∧ W.cell? ⟨ba, oa + k * 2 + 1, none⟩ = some (.slice x.b x.zs.length x.cb)) ∧ (W.cell? ⟨bb, ob + k * 2, none⟩ = some (.slice ya x.vs.length yca) ∧ W.cell? ⟨bb, ob + k * 2 + 1, none⟩ = some (.slice yb x.zs.length ycb)))
        (first | with_reducible exact HS.out _ (Below.drew hbw) | with_reducible exact HS.out _ hB1)
        (first | (go_at_call 29; (with_reducible refine (eqHeaps x.a x.b ya yb x.ca x.cb yca ycb x.vs x.zs _ hx.1 hx.2 (HR.out _ (Below.drew hbw)).1 (HR.out _ (Below.drew hbw)).2).mono ?_); rintro e w1 ⟨rfl, hb1⟩; have hB1 := (Below.drew hbw).trans (hb1.mono (Below.drew hbw).size)))
      go_wp2
      go_roundw
      case rel => exact ⟨k + 1, by omega, by go_num, hB1⟩
      case measure => simp [intOf]; omega
    · go_wp2
      go_ret
      exact ⟨rfl, hbw⟩
end Go.Proofs.YtpmmjaceehlpiaaGreatDoor
