/-
  How a program is read from a list of bytes, piece by piece; that what is read rightly is the text, and that a program's text is read back. Nothing here knows of the program's own text.
  A program's text is read back as the program: the pieces of its text, by the reader and by cutting; there is no other program with that text. Nothing here knows of the program's own text.
-/
import Derived.Test.YtabedmjaodinbaaGreatDoorProgWords
import Derived.Test.YtabedmjaodinbaaGreatDoorNumerals
import Derived.Test.YtabedmjaodinbaaGreatDoorCutJoin
namespace Go.Proofs.YtabedmjaodinbaaGreatDoor
open Go Go.RowKit

/-- What stands before the first c. -/
def pieceL (c : UInt8) (l : List UInt8) : List UInt8 := l.takeWhile (· != c)
theorem piece_clean (c : UInt8) (l : List UInt8) : ∀ x ∈ pieceL c l, x ≠ c := by
  induction l with
  | nil => intro x hx; simp [pieceL] at hx
  | cons y r ih =>
    intro x hx
    unfold pieceL at hx
    rw [List.takeWhile_cons] at hx
    split at hx
    · rename_i hy
      rcases List.mem_cons.1 hx with rfl | h
      · simpa using hy
      · exact ih x h
    · simp at hx
theorem piece_parts (c : UInt8) : ∀ l : List UInt8, l = pieceL c l ∨ ∃ r, l = pieceL c l ++ c :: r
  | [] => .inl rfl
  | y :: l => by
    by_cases hy : y = c
    · subst hy
      exact .inr ⟨l, by simp [pieceL]⟩
    · have hp : pieceL c (y :: l) = y :: pieceL c l := by
        unfold pieceL
        rw [List.takeWhile_cons, if_pos (by simpa using hy)]
      rw [hp]
      rcases piece_parts c l with h | ⟨r, h⟩
      · exact .inl (by rw [← h])
      · exact .inr ⟨r, by rw [List.cons_append, ← h]⟩
theorem piece_hit (c : UInt8) : ∀ (f r : List UInt8), (∀ x ∈ f, x ≠ c) → pieceL c (f ++ c :: r) = f
  | [], r, _ => by simp [pieceL]
  | y :: f, r, h => by
    have ih := piece_hit c f r fun x hx => h x (by simp [hx])
    unfold pieceL at ih ⊢
    rw [List.cons_append, List.takeWhile_cons, if_pos (by simpa using h y (by simp)), ih]
theorem piece_all (c : UInt8) : ∀ (f : List UInt8), (∀ x ∈ f, x ≠ c) → pieceL c f = f
  | [], _ => rfl
  | y :: f, h => by
    have ih := piece_all c f fun x hx => h x (by simp [hx])
    unfold pieceL at ih ⊢
    rw [List.takeWhile_cons, if_pos (by simpa using h y (by simp)), ih]
theorem piece_length (c : UInt8) (l : List UInt8) : (pieceL c l).length ≤ l.length := by
  rcases piece_parts c l with h | ⟨r, h⟩
  · rw [← h]; exact Nat.le_refl _
  · have := congrArg List.length h
    simp at this
    omega
theorem index_of_parts (c : UInt8) (f r : List UInt8) (h : ∀ x ∈ f, x ≠ c) : Lib.indexByte (f ++ c :: r) c = f.length := by
  have hg := Lib.indexByte_ge (f ++ c :: r) c
  by_cases hm : Lib.indexByte (f ++ c :: r) c = -1
  · exact absurd (by simp) (Lib.indexByte_none hm f.length)
  · obtain ⟨o, ho⟩ : ∃ o : Nat, Lib.indexByte (f ++ c :: r) c = o := ⟨(Lib.indexByte (f ++ c :: r) c).toNat, by omega⟩
    obtain ⟨h1, h2⟩ := Lib.indexByte_some ho
    rw [ho]
    congr 1
    rcases Nat.lt_trichotomy o f.length with hlt | heq | hgt
    · rw [List.getElem?_append_left hlt] at h1
      exact absurd rfl (h c (List.mem_of_getElem? h1))
    · exact heq
    · exact absurd (by simp) (h2 f.length hgt)
theorem cut_piece (c : UInt8) (l : List UInt8) : (Lib.cut l [c]).1 = pieceL c l := by
  unfold Lib.cut
  rw [Lib.index_one]
  rcases piece_parts c l with h | ⟨r, h⟩
  · have hn : ¬ 0 ≤ Lib.indexByte l c := by
      intro h0
      obtain ⟨o, ho⟩ : ∃ o : Nat, Lib.indexByte l c = o := ⟨(Lib.indexByte l c).toNat, by omega⟩
      obtain ⟨h1, _⟩ := Lib.indexByte_some ho
      have hm := List.mem_of_getElem? h1
      rw [h] at hm
      exact piece_clean c l c hm rfl
    rw [if_neg hn]
    exact h
  · have hi := index_of_parts c (pieceL c l) r (piece_clean c l)
    rw [← h] at hi
    rw [hi, if_pos (by omega)]
    show l.take (pieceL c l).length = _
    have e : l.take (pieceL c l).length = (pieceL c l ++ c :: r).take (pieceL c l).length := congrArg (List.take (pieceL c l).length) h
    rw [e, List.take_left]

/-- The piece from a place on, and the place behind it. -/
def pc (c : UInt8) (t : List UInt8) (at_ : Nat) : List UInt8 := pieceL c (t.drop at_)
def nx (c : UInt8) (t : List UInt8) (at_ : Nat) : Nat := at_ + (pc c t at_).length + 1
theorem pc_over {c : UInt8} {t : List UInt8} {n : Nat} (h : t.length ≤ n) : pc c t n = [] := by
  rw [pc, List.drop_eq_nil_of_le h]
  rfl
theorem pc_length (c : UInt8) (t : List UInt8) (n : Nat) : (pc c t n).length ≤ t.length := by
  have := piece_length c (t.drop n)
  rw [List.length_drop] at this
  unfold pc
  omega

/-- L has been read; a c may stand behind it. -/
def Cons (c : UInt8) (t L : List UInt8) (n : Nat) : Prop := n = L.length + 1 ∧ (t = L ∨ ∃ r, t = L ++ c :: r)
theorem cons_step {c d : UInt8} {t L : List UInt8} {n : Nat} (h : Cons c t L n) (hn : n ≤ t.length) : Cons d t (L ++ c :: pc d t n) (nx d t n) := by
  obtain ⟨rfl, h⟩ := h
  rcases h with h | ⟨r, h⟩
  · rw [h] at hn
    omega
  · have hd : t.drop (L.length + 1) = r := by
      rw [h, List.drop_append]
      simp
    have hp : pc d t (L.length + 1) = pieceL d r := by rw [pc, hd]
    refine ⟨by simp [nx]; omega, ?_⟩
    rw [hp]
    rcases piece_parts d r with h2 | ⟨r2, h2⟩
    · exact .inl (by rw [← h2]; exact h)
    · exact .inr ⟨r2, by rw [List.append_assoc, List.cons_append, ← h2]; exact h⟩
theorem cons_first (d : UInt8) (t : List UInt8) : Cons d t (pc d t 0) (nx d t 0) := by
  refine ⟨by simp [nx], ?_⟩
  have hp : pc d t 0 = pieceL d t := by simp [pc]
  rw [hp]
  exact piece_parts d t

def numV (l : List UInt8) : Int := if num 0 999999 l = true then valOf l else 0
theorem num_nil : num 0 999999 [] = false := by rfl
theorem num_text {l : List UInt8} (h : num 0 999999 l = true) : Lib.itoa (numV l) = l := by
  rw [numV, if_pos h]
  exact (atoi_num h).2.2.2

def kOf (l : List UInt8) : Int := if parsesS (mkS l) = true then guessK (mkS l) else 0
def aOf (l : List UInt8) : ByteArray := if parsesS (mkS l) = true then guessA (mkS l) else ⟨#[]⟩
def bOf (l : List UInt8) : ByteArray := if parsesS (mkS l) = true then guessB (mkS l) else ⟨#[]⟩
theorem stmt_text {l : List UInt8} (h : parsesS (mkS l) = true) : (textS (kOf l) (aOf l) (bOf l)).data.toList = l := by
  rw [kOf, aOf, bOf, if_pos h, if_pos h, if_pos h, (parsesS_text h).2]
  rfl

def edAt (t : List UInt8) (n : Nat) : Ed := ⟨numV (pc 32 t n), numV (pc 32 t (nx 32 t n)), kOf (pc 59 t (nx 32 t (nx 32 t n))), aOf (pc 59 t (nx 32 t (nx 32 t n))), bOf (pc 59 t (nx 32 t (nx 32 t n)))⟩
def edNext (t : List UInt8) (n : Nat) : Nat := nx 59 t (nx 32 t (nx 32 t n))
def edGood (t : List UInt8) (n : Nat) : Bool := num 0 999999 (pc 32 t n) && num 0 999999 (pc 32 t (nx 32 t n)) && parsesS (mkS (pc 59 t (nx 32 t (nx 32 t n))))
theorem edge_sound {t L : List UInt8} {n : Nat} (h : Cons 59 t L n) (hn : n ≤ t.length) (hg : edGood t n = true) : Cons 59 t (L ++ 59 :: edL (edAt t n)) (edNext t n) := by
  simp only [edGood, Bool.and_eq_true] at hg
  obtain ⟨⟨g1, g2⟩, g3⟩ := hg
  have c1 := cons_step (d := 32) h hn
  have n1 : nx 32 t n ≤ t.length := by
    rcases Nat.lt_or_ge t.length (nx 32 t n) with hh | hh
    · rw [pc_over (by omega), num_nil] at g2
      cases g2
    · exact hh
  have c2 := cons_step (d := 32) c1 n1
  have n2 : nx 32 t (nx 32 t n) ≤ t.length := by
    rcases Nat.lt_or_ge t.length (nx 32 t (nx 32 t n)) with hh | hh
    · rw [pc_over (by omega)] at g3
      have := parsesS_empty
      rw [show mkS [] = ⟨#[]⟩ from rfl, this] at g3
      cases g3
    · exact hh
  have c3 := cons_step (d := 59) c2 n2
  have e : L ++ 59 :: edL (edAt t n) = L ++ 59 :: pc 32 t n ++ 32 :: pc 32 t (nx 32 t n) ++ 32 :: pc 59 t (nx 32 t (nx 32 t n)) := by
    simp only [edL, edAt, num_text g1, num_text g2, stmt_text g3, List.append_assoc, List.cons_append]
  rw [e]
  exact c3

/-- The state behind k edges: the place, whether all was right, the edges. -/
def stR (t : List UInt8) (a0 : Nat) (g0 : Bool) : Nat → Nat × Bool × List Ed
  | 0 => (a0, g0, [])
  | k + 1 => (edNext t (stR t a0 g0 k).1, (stR t a0 g0 k).2.1 && edGood t (stR t a0 g0 k).1, (stR t a0 g0 k).2.2 ++ [edAt t (stR t a0 g0 k).1])
theorem stR_length (t : List UInt8) (a0 : Nat) (g0 : Bool) : ∀ k, (stR t a0 g0 k).2.2.length = k
  | 0 => rfl
  | k + 1 => by rw [stR, List.length_append, stR_length t a0 g0 k]; rfl

def varsL (t : List UInt8) : List ByteArray := pieces 32 (mkS (pc 59 t 0))
def ptsF (t : List UInt8) : List UInt8 := pc 59 t (nx 59 t 0)
def at0 (t : List UInt8) : Nat := nx 59 t (nx 59 t 0)
def st (t : List UInt8) (k : Nat) : Nat × Bool × List Ed := stR t (at0 t) (num 0 999999 (ptsF t)) k
def contR (t : List UInt8) (k : Nat) : Bool := (st t k).2.1 && decide ((st t k).1 ≤ t.length) && decide (k ≤ 24)

theorem read_sound (t : List UInt8) : ∀ k, (∀ j, j < k → contR t j = true) → (st t k).2.1 = true → Cons 59 t (progL (varsL t) (numV (ptsF t)) (st t k).2.2) (st t k).1
  | 0, _, hg => by
    have hg' : num 0 999999 (ptsF t) = true := hg
    have c0 := cons_first 59 t
    have n0 : nx 59 t 0 ≤ t.length := by
      rcases Nat.lt_or_ge t.length (nx 59 t 0) with hh | hh
      · rw [ptsF, pc_over (by omega), num_nil] at hg'
        cases hg'
      · exact hh
    have c1 := cons_step (d := 59) c0 n0
    have e : progL (varsL t) (numV (ptsF t)) (st t 0).2.2 = pc 59 t 0 ++ 59 :: pc 59 t (nx 59 t 0) := by
      show progL (varsL t) (numV (ptsF t)) [] = _
      rw [progL, varsL, jn_pieces, num_text hg', mkS_toList]
      simp [ptsF]
    rw [e]
    exact c1
  | k + 1, hc, hg => by
    have hg' : ((st t k).2.1 && edGood t (st t k).1) = true := hg
    simp only [Bool.and_eq_true] at hg'
    have ih := read_sound t k (fun j hj => hc j (by omega)) hg'.1
    have hck := hc k (by omega)
    simp only [contR, Bool.and_eq_true, decide_eq_true_eq] at hck
    have hs := edge_sound ih hck.1.2 hg'.2
    have e : progL (varsL t) (numV (ptsF t)) (st t (k + 1)).2.2 = progL (varsL t) (numV (ptsF t)) (st t k).2.2 ++ 59 :: edL (edAt t (st t k).1) := by
      show progL _ _ ((st t k).2.2 ++ [edAt t (st t k).1]) = _
      simp [progL]
    rw [e]
    exact hs
end Go.Proofs.YtabedmjaodinbaaGreatDoor

namespace Go.Proofs.YtabedmjaodinbaaGreatDoor
open Go Go.RowKit

theorem not_mem {c : UInt8} {l : List UInt8} (h : c ∉ l) : ∀ x ∈ l, x ≠ c := fun x hx e => h (e ▸ hx)
theorem itoa_clean {n : Int} (h : 0 ≤ n) {c : UInt8} (hc : isDig c = false) : c ∉ Lib.itoa n := by
  obtain ⟨u, rfl⟩ : ∃ u : Nat, n = u := ⟨n.toNat, by omega⟩
  rw [itoa_nat]
  intro hm
  have := List.all_eq_true.1 (dec_all u) c hm
  rw [hc] at this
  cases this
theorem num_itoa_yes {n : Int} (h0 : 0 ≤ n) (h1 : n ≤ 999999) : num 0 999999 (Lib.itoa n) = true ∧ numV (Lib.itoa n) = n := by
  have h := num_atoi (lo := 0) (hi := 999999) (by omega) (by omega) h0 h1 rfl
  exact ⟨h, by rw [numV, if_pos h, (val_itoa n).1]⟩
theorem name_clean {s : ByteArray} (h : goodName s = true) {c : UInt8} (hc : small c = false) : c ∉ s.data.toList := by
  rw [goodName_list] at h
  intro hm
  match hl : s.data.toList, h, hm with
  | [x], h, hm =>
    have e : c = x := by simpa using hm
    subst e
    simp only [nameL] at h
    rw [hc] at h
    cases h
  | [x, y], h, hm =>
    simp only [nameL, Bool.and_eq_true] at h
    rcases (show c = x ∨ c = y by simpa using hm) with e | e
    · subst e
      rw [hc] at h
      cases h.1
    · subst e
      rw [hc] at h
      cases h.2
theorem placeFrom_mem (s : ByteArray) : ∀ (xs : List ByteArray) (k : Nat), 0 ≤ placeFrom s k xs → s ∈ xs
  | [], k, h => by simp [placeFrom] at h
  | x :: xs, k, h => by
    unfold placeFrom at h
    split at h
    · rename_i he
      have : x = s := by
        apply bytes_ext
        rw [← ByteArray.toList_eq, ← ByteArray.toList_eq]
        simpa using he
      simp [this]
    · exact List.mem_cons_of_mem _ (placeFrom_mem s xs (k + 1) h)
theorem vars_name {ss : List ByteArray} (h : goodVars ss = true) {s : ByteArray} (hs : s ∈ ss) : goodName s = true := by
  obtain ⟨k, hk, rfl⟩ := List.mem_iff_getElem.1 hs
  exact (vars_at h hk).1
theorem operand_can {ss : List ByteArray} (hg : goodVars ss = true) {s : ByteArray} {u : Bool} (h : operandB ss s u = true) : canS s u = true := by
  cases u
  · simpa [operandB, canS] using h
  · simp only [operandB, if_true, decide_eq_true_eq] at h
    simp only [canS, if_true]
    exact vars_name hg (placeFrom_mem s ss 0 h)
theorem can_clean {s : ByteArray} {u : Bool} (h : canS s u = true) {c : UInt8} (hc : small c = false) : c ∉ s.data.toList := by
  cases u
  · have : s.data.toList = [] := by simpa [canS, ByteArray.toList_eq] using h
    rw [this]
    simp
  · exact name_clean (by simpa [canS] using h) hc
theorem body_clean {k : Int} (hk : 1 ≤ k ∧ k ≤ 12) {a b : List UInt8} (ha : (59 : UInt8) ∉ a) (hb : (59 : UInt8) ∉ b) : (59 : UInt8) ∉ bodyL k a b ∧ bodyL k a b ≠ [] := by
  rcases kinds hk with rfl | rfl | rfl | rfl | rfl | rfl | rfl | rfl | rfl | rfl | rfl | rfl
  all_goals simp [bodyL, ha, hb]

/-- A statement's text over good variables: clean, and parsed back. -/
theorem stmt_back {ss : List ByteArray} {k : Int} {a b : ByteArray} (h : stmtB ss k a b = true) : (59 : UInt8) ∉ (textS k a b).data.toList ∧ parsesS (textS k a b) = true ∧ kOf (textS k a b).data.toList = k ∧ aOf (textS k a b).data.toList = a ∧ bOf (textS k a b).data.toList = b := by
  simp only [stmtB, Bool.and_eq_true, decide_eq_true_eq] at h
  obtain ⟨⟨⟨hg, hn⟩, h1⟩, h2⟩ := h
  have c1 := operand_can hg h1
  have c2 := operand_can hg h2
  have hk : 1 ≤ k ∧ k ≤ 12 := by
    rcases Classical.em (1 ≤ k ∧ k ≤ 12) with hk | hk
    · exact hk
    · rw [namesN_none hk] at hn
      omega
  have hT : (textS k a b).data.toList = bodyL k a.data.toList b.data.toList := by
    rw [canS_list] at c1 c2
    rw [textS_data, textL, if_pos (by simp [okL, c1, c2])]
  have hb := body_clean hk (can_clean c1 (c := 59) (by decide)) (can_clean c2 (c := 59) (by decide))
  have hne : textS k a b ≠ ⟨#[]⟩ := fun e => hb.2 (by rw [← hT, e])
  obtain ⟨p0, p1, p2, p3⟩ := parsesS_of rfl hne
  refine ⟨by rw [hT]; exact hb.1, p0, ?_, ?_, ?_⟩
  · rw [kOf, mkS_list, if_pos p0, p1]
  · rw [aOf, mkS_list, if_pos p0, p2]
  · rw [bOf, mkS_list, if_pos p0, p3]

theorem piece_here {c d : UInt8} {t L f tail : List UInt8} (h : t = L ++ c :: (f ++ tail)) (ht : tail = [] ∨ ∃ r, tail = d :: r) (hf : d ∉ f) : pc d t (L.length + 1) = f ∧ nx d t (L.length + 1) = (L ++ c :: f).length + 1 := by
  have hd : t.drop (L.length + 1) = f ++ tail := by rw [h, List.drop_append]; simp
  have hp : pc d t (L.length + 1) = f := by
    rw [pc, hd]
    rcases ht with rfl | ⟨r, rfl⟩
    · rw [List.append_nil, piece_all d f (not_mem hf)]
    · rw [piece_hit d f r (not_mem hf)]
  exact ⟨hp, by rw [nx, hp]; simp; omega⟩
theorem piece_start {d : UInt8} {t f tail : List UInt8} (h : t = f ++ tail) (ht : tail = [] ∨ ∃ r, tail = d :: r) (hf : d ∉ f) : pc d t 0 = f ∧ nx d t 0 = f.length + 1 := by
  have hp : pc d t 0 = f := by
    rw [pc, List.drop_zero, h]
    rcases ht with rfl | ⟨r, rfl⟩
    · rw [List.append_nil, piece_all d f (not_mem hf)]
    · rw [piece_hit d f r (not_mem hf)]
  exact ⟨hp, by rw [nx, hp]; omega⟩
theorem cut_join (c : UInt8) : ∀ (ls : List (List UInt8)) (l : List UInt8), (∀ x ∈ l :: ls, c ∉ x) → cut c (Lib.join (l :: ls) [c]) = l :: ls
  | [], l, h => by
    rw [Lib.join_one]
    exact cut_none c l (not_mem (h l (by simp)))
  | m :: ls, l, h => by
    have ih := cut_join c ls m fun x hx => h x (by simp at hx ⊢; rcases hx with hx | hx <;> simp [hx])
    have e : Lib.join (l :: m :: ls) [c] = l ++ c :: Lib.join (m :: ls) [c] := by
      rw [join_flat, join_flat]
      simp
    rw [e, cut_hit c l _ (not_mem (h l (by simp))), ih]

/-- t is the text of a program that is right. -/
def ValidT (t : List UInt8) (ss : List ByteArray) (p : Int) (es : List Ed) : Prop := progB ss p es = true ∧ t = progL ss p es
theorem prog_parts {ss : List ByteArray} {p : Int} {es : List Ed} (h : progB ss p es = true) : goodVars ss = true ∧ (1 ≤ p ∧ p ≤ 12) ∧ es.length ≤ 24 ∧ ∀ x ∈ es, (0 ≤ x.f ∧ x.f < p) ∧ (0 ≤ x.t ∧ x.t < p) ∧ stmtB ss x.k x.a x.b = true := by
  simp only [progB, Bool.and_eq_true, decide_eq_true_eq, List.all_eq_true] at h
  obtain ⟨⟨⟨⟨h1, h2⟩, h3⟩, h4⟩, h5⟩ := h
  refine ⟨h1, ⟨h2, h3⟩, h4, fun x hx => ?_⟩
  have := h5 x hx
  simp only [edB, pointB, Bool.and_eq_true, decide_eq_true_eq] at this
  exact ⟨this.1.1, this.1.2, this.2⟩
theorem vars_clean {ss : List ByteArray} (h : goodVars ss = true) {c : UInt8} (hc : small c = false) : ∀ x ∈ ss.map (·.data.toList), c ∉ x := by
  intro x hx
  obtain ⟨s, hs, rfl⟩ := List.mem_map.1 hx
  exact name_clean (vars_name h hs) hc
theorem vars_ne {ss : List ByteArray} (h : goodVars ss = true) : ∃ s r, ss = s :: r := by
  have h1 := (of_decide_eq_true h).2
  match ss, h1 with
  | s :: r, _ => exact ⟨s, r, rfl⟩
theorem vars_cut {ss : List ByteArray} (h : goodVars ss = true) : pieces 32 (mkS (jn ss ⟨#[32]⟩)) = ss := by
  obtain ⟨s, r, rfl⟩ := vars_ne h
  have hc := vars_clean h (c := 32) (by decide)
  rw [List.map_cons] at hc
  rw [pieces, mkS_toList, jn, List.map_cons, show (⟨#[32]⟩ : ByteArray).data.toList = [32] from rfl, cut_join 32 _ _ hc, List.map_cons, List.map_map]
  show mkS s.data.toList :: r.map (mkS ∘ fun x => x.data.toList) = s :: r
  congr 1
  conv => rhs; rw [← List.map_id r]
  rfl
theorem jn_no59 {ss : List ByteArray} (h : goodVars ss = true) : (59 : UInt8) ∉ jn ss ⟨#[32]⟩ := by
  obtain ⟨s, r, rfl⟩ := vars_ne h
  have hc := vars_clean h (c := 59) (by decide)
  rw [jn, List.map_cons, join_flat]
  intro hm
  rcases List.mem_append.1 hm with hm | hm
  · exact hc _ (by simp) hm
  · obtain ⟨x, hx, hxm⟩ := List.mem_flatMap.1 hm
    rcases List.mem_append.1 hxm with hq | hq
    · rw [show (⟨#[32]⟩ : ByteArray).data.toList = [32] from rfl] at hq
      simp at hq
    · exact hc x (by rw [List.map_cons]; exact List.mem_cons_of_mem _ hx) hq
theorem flat_tail (es : List Ed) : (es.flatMap fun x => 59 :: edL x) = [] ∨ ∃ r, (es.flatMap fun x => 59 :: edL x) = 59 :: r := by
  cases es with
  | nil => exact .inl rfl
  | cons x r => exact .inr ⟨_, rfl⟩
theorem progL_split (ss : List ByteArray) (p : Int) (es : List Ed) (k : Nat) : progL ss p es = progL ss p (es.take k) ++ (es.drop k).flatMap fun x => 59 :: edL x := by
  have e : (es.flatMap fun x => 59 :: edL x) = ((es.take k).flatMap fun x => 59 :: edL x) ++ (es.drop k).flatMap fun x => 59 :: edL x := by
    rw [← List.flatMap_append, List.take_append_drop]
  unfold progL
  rw [e]
  simp only [List.append_assoc, List.cons_append]

theorem edge_back {ss : List ByteArray} {p : Int} {x : Ed} {t L tail : List UInt8} (hp : p ≤ 12) (hx : (0 ≤ x.f ∧ x.f < p) ∧ (0 ≤ x.t ∧ x.t < p) ∧ stmtB ss x.k x.a x.b = true) (h : t = L ++ 59 :: (edL x ++ tail)) (ht : tail = [] ∨ ∃ r, tail = 59 :: r) :
    edAt t (L.length + 1) = x ∧ edGood t (L.length + 1) = true ∧ edNext t (L.length + 1) = (L ++ 59 :: edL x).length + 1 := by
  obtain ⟨⟨f0, f1⟩, ⟨t0, t1⟩, hs⟩ := hx
  obtain ⟨s0, s1, s2, s3, s4⟩ := stmt_back hs
  have e1 := piece_here (L := L) (c := 59) (t := t) (d := 32) (f := Lib.itoa x.f) (tail := 32 :: (Lib.itoa x.t ++ 32 :: ((textS x.k x.a x.b).data.toList ++ tail))) (by rw [h, edL]; simp only [List.append_assoc, List.cons_append]) (.inr ⟨_, rfl⟩) (itoa_clean f0 (by decide))
  have e2 := piece_here (L := L ++ 59 :: Lib.itoa x.f) (c := 32) (d := 32) (t := t) (f := Lib.itoa x.t) (tail := 32 :: ((textS x.k x.a x.b).data.toList ++ tail)) (by rw [h, edL]; simp only [List.append_assoc, List.cons_append]) (.inr ⟨_, rfl⟩) (itoa_clean t0 (by decide))
  have e3 := piece_here (L := L ++ 59 :: Lib.itoa x.f ++ 32 :: Lib.itoa x.t) (c := 32) (d := 59) (t := t) (f := (textS x.k x.a x.b).data.toList) (tail := tail) (by rw [h, edL]; simp only [List.append_assoc, List.cons_append]) ht s0
  rw [← e1.2] at e2
  rw [← e2.2] at e3
  have n1 := num_itoa_yes f0 (by omega)
  have n2 := num_itoa_yes t0 (by omega)
  refine ⟨?_, ?_, ?_⟩
  · rw [edAt, e1.1, e2.1, e3.1, n1.2, n2.2, s2, s3, s4]
  · rw [edGood, e1.1, e2.1, e3.1, n1.1, n2.1, mkS_list, s1]
    rfl
  · rw [edNext, e3.2, edL]
    simp only [List.append_assoc, List.cons_append]

theorem read_back {t : List UInt8} {ss : List ByteArray} {p : Int} {es : List Ed} (h : ValidT t ss p es) : varsL t = ss ∧ numV (ptsF t) = p ∧ ∀ k, k ≤ es.length → st t k = ((progL ss p (es.take k)).length + 1, true, es.take k) := by
  obtain ⟨hB, ht⟩ := h
  obtain ⟨hg, ⟨p0, p1⟩, _, hes⟩ := prog_parts hB
  have v := piece_start (d := 59) (t := t) (f := jn ss ⟨#[32]⟩) (by rw [ht, progL]) (.inr ⟨_, rfl⟩) (jn_no59 hg)
  have q := piece_here (c := 59) (d := 59) (t := t) (L := jn ss ⟨#[32]⟩) (f := Lib.itoa p) (by rw [ht, progL]) (flat_tail es) (itoa_clean (by omega) (by decide))
  have n := num_itoa_yes (n := p) (by omega) (by omega)
  have hpf : ptsF t = Lib.itoa p := by rw [ptsF, v.2, q.1]
  have ha : at0 t = (progL ss p []).length + 1 := by
    rw [at0, v.2, q.2]
    simp [progL]
  refine ⟨by rw [varsL, v.1, vars_cut hg], by rw [hpf, n.2], ?_⟩
  intro k
  induction k with
  | zero =>
    intro _
    show (at0 t, num 0 999999 (ptsF t), []) = _
    rw [ha, hpf, n.1]
    rfl
  | succ k ih =>
    intro hk
    have ih := ih (by omega)
    have hlt : k < es.length := by omega
    have hx := hes es[k] (List.getElem_mem hlt)
    have hd : (es.drop k).flatMap (fun x => 59 :: edL x) = 59 :: (edL es[k] ++ (es.drop (k + 1)).flatMap fun x => 59 :: edL x) := by
      rw [List.drop_eq_getElem_cons hlt]
      rfl
    have e := edge_back (L := progL ss p (es.take k)) (t := t) (tail := (es.drop (k + 1)).flatMap fun x => 59 :: edL x) p1 hx (by rw [ht, progL_split ss p es k, hd]) (flat_tail _)
    show (edNext t (st t k).1, (st t k).2.1 && edGood t (st t k).1, (st t k).2.2 ++ [edAt t (st t k).1]) = _
    rw [ih]
    simp only
    rw [e.1, e.2.1, e.2.2, ← progL_next ss p es k hlt, ← take_next es k hlt]
    rfl

theorem valid_one {t : List UInt8} {ss ss' : List ByteArray} {p p' : Int} {es es' : List Ed} (h : ValidT t ss p es) (h' : ValidT t ss' p' es') : ss = ss' ∧ p = p' ∧ es = es' := by
  obtain ⟨a1, a2, a3⟩ := read_back h
  obtain ⟨b1, b2, b3⟩ := read_back h'
  refine ⟨a1.symm.trans b1, a2.symm.trans b2, ?_⟩
  rcases Nat.le_total es.length es'.length with hl | hl
  · have x := a3 es.length (Nat.le_refl _)
    rw [b3 es.length hl, List.take_length] at x
    simp only [Prod.mk.injEq, true_and] at x
    have hlen : (progL ss' p' (es'.take es.length)).length = (progL ss p es).length := by omega
    rw [← h.2, h'.2, progL_split ss' p' es' es.length, List.length_append] at hlen
    have h0 : ((es'.drop es.length).flatMap fun x => 59 :: edL x) = [] := List.eq_nil_of_length_eq_zero (by omega)
    have hd : es'.drop es.length = [] := by
      match hq : es'.drop es.length with
      | [] => rfl
      | y :: r => rw [hq] at h0; simp at h0
    have := List.take_append_drop es.length es'
    rw [hd, x.2, List.append_nil] at this
    exact this
  · have x := b3 es'.length (Nat.le_refl _)
    rw [a3 es'.length hl, List.take_length] at x
    simp only [Prod.mk.injEq, true_and] at x
    have hlen : (progL ss p (es.take es'.length)).length = (progL ss' p' es').length := by omega
    rw [← h'.2, h.2, progL_split ss p es es'.length, List.length_append] at hlen
    have h0 : ((es.drop es'.length).flatMap fun x => 59 :: edL x) = [] := List.eq_nil_of_length_eq_zero (by omega)
    have hd : es.drop es'.length = [] := by
      match hq : es.drop es'.length with
      | [] => rfl
      | y :: r => rw [hq] at h0; simp at h0
    have := List.take_append_drop es'.length es
    rw [hd, x.2, List.append_nil] at this
    exact this.symm

/-- Where the reader stops: what was read rightly is the one program with that text, or there is none. -/
theorem read_yes {t : List UInt8} {k : Nat} (hc : ∀ j, j < k → contR t j = true) (hn : contR t k = false) (hg : (st t k).2.1 = true) (hB : progB (varsL t) (numV (ptsF t)) (st t k).2.2 = true) : ValidT t (varsL t) (numV (ptsF t)) (st t k).2.2 := by
  refine ⟨hB, ?_⟩
  obtain ⟨h1, h2⟩ := read_sound t k hc hg
  rcases h2 with h2 | ⟨r, h2⟩
  · exact h2
  · have hk : k ≤ 24 := by
      have := (prog_parts hB).2.2.1
      rw [st, stR_length] at this
      exact this
    have hlen := congrArg List.length h2
    rw [List.length_append, List.length_cons] at hlen
    simp only [contR, hg, Bool.true_and, Bool.and_eq_false_iff, decide_eq_false_iff_not] at hn
    omega
theorem read_no {t : List UInt8} {k : Nat} (hc : ∀ j, j < k → contR t j = true) (hn : contR t k = false) (hb : ((st t k).2.1 && progB (varsL t) (numV (ptsF t)) (st t k).2.2) = false) (ss : List ByteArray) (p : Int) (es : List Ed) : ¬ ValidT t ss p es := by
  intro h
  obtain ⟨a1, a2, a3⟩ := read_back h
  have hl := (prog_parts h.1).2.2.1
  have hend : contR t es.length = false := by
    have e := a3 es.length (Nat.le_refl _)
    simp only [contR, e, List.take_length, ← h.2, Bool.true_and, Bool.and_eq_false_iff, decide_eq_false_iff_not]
    omega
  have hke : k = es.length := by
    rcases Nat.lt_trichotomy k es.length with hk | hk | hk
    · have e := a3 k (by omega)
      have hgo : contR t k = true := by
        simp only [contR, e, Bool.true_and, Bool.and_eq_true, decide_eq_true_eq]
        refine ⟨?_, by omega⟩
        have hsp := congrArg List.length (progL_split ss p es k)
        rw [← h.2, List.length_append, List.drop_eq_getElem_cons hk, List.flatMap_cons, List.length_append, List.length_cons] at hsp
        omega
      rw [hgo] at hn
      cases hn
    · exact hk
    · rw [hc es.length hk] at hend
      cases hend
  subst hke
  rw [a3 es.length (Nat.le_refl _), a1, a2, List.take_length] at hb
  simp only [h.1] at hb
  cases hb
end Go.Proofs.YtabedmjaodinbaaGreatDoor
