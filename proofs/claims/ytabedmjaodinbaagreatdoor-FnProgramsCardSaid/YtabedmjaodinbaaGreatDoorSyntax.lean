/-
  The text of a statement, what a text is guessed to be, and the words of a text: plain mathematics on lists of bytes.
-/
import Derived.Test.YtabedmjaodinbaaGreatDoorNames
import Derived.Test.YtabedmjaodinbaaGreatDoorNamesOf
import Derived.Lib.CutLaws
namespace Go.Proofs.YtabedmjaodinbaaGreatDoor
open Go Go.RowKit

/-- A name as a list: one small letter or two. -/
def small (c : UInt8) : Bool := decide (97 ≤ c.toNat) && decide (c.toNat ≤ 122)
def nameL (l : List UInt8) : Bool := match l with
  | [c] => small c
  | [c, d] => small c && small d
  | _ => false
theorem mkS_data (s : ByteArray) : (⟨s.data.toList.toArray⟩ : ByteArray) = s := rfl
theorem bytes_ext {a b : ByteArray} (h : a.data.toList = b.data.toList) : a = b := by
  obtain ⟨⟨l⟩⟩ := a
  obtain ⟨⟨m⟩⟩ := b
  simp at h
  rw [h]
theorem goodName_list (s : ByteArray) : goodName s = nameL s.data.toList := by
  obtain ⟨⟨l⟩⟩ := s
  rw [Bool.eq_iff_iff]
  have hsz : (ByteArray.mk ⟨l⟩).size = l.length := rfl
  have hget : ∀ k (h : k < l.length), (ByteArray.mk ⟨l⟩)[k]'h = l[k]'h := fun k h => rfl
  simp only [goodName, decide_eq_true_eq]
  constructor
  · rintro ⟨h, h1, h2⟩
    rw [hsz] at h1 h2
    match l, h, h1, h2 with
    | [c], h, _, _ =>
      have := h 0 (by rw [hsz]; simp)
      simp only [hget, List.getElem_cons_zero] at this
      simp [nameL, small, this]
    | [c, d], h, _, _ =>
      have a := h 0 (by rw [hsz]; simp)
      have b := h 1 (by rw [hsz]; simp)
      simp only [hget, List.getElem_cons_zero, List.getElem_cons_succ] at a b
      simp [nameL, small, a, b]
    | _ :: _ :: _ :: _, _, _, h2 => simp at h2
  · intro h
    match l, h, hsz, hget with
    | [c], h, hsz, hget =>
      simp only [nameL, small, Bool.and_eq_true, decide_eq_true_eq] at h
      refine ⟨fun k hk => ?_, by rw [hsz]; simp, by rw [hsz]; simp⟩
      have hk' : k = 0 := by rw [hsz] at hk; simp at hk; omega
      subst hk'
      simpa [hget] using h
    | [c, d], h, hsz, hget =>
      simp only [nameL, small, Bool.and_eq_true, decide_eq_true_eq] at h
      refine ⟨fun k hk => ?_, by rw [hsz]; simp, by rw [hsz]; simp⟩
      rcases (show k = 0 ∨ k = 1 by rw [hsz] at hk; simp at hk; omega) with rfl | rfl
      · simpa [hget] using h.1
      · simpa [hget] using h.2

/-- The words of the texts. -/
def bodyL (k : Int) (a b : List UInt8) : List UInt8 :=
  if k = 1 then [115, 107, 105, 112]
  else if k = 2 then a ++ [61, 110, 117, 108, 108]
  else if k = 3 then a ++ [61, 110, 101, 119]
  else if k = 4 then a ++ 61 :: b
  else if k = 5 then a ++ 61 :: (b ++ [46, 110])
  else if k = 6 then a ++ [46, 110, 61, 110, 117, 108, 108]
  else if k = 7 then a ++ 46 :: 110 :: 61 :: b
  else if k = 8 then 102 :: 114 :: 101 :: 101 :: 32 :: a
  else if k = 9 then a ++ [61, 61, 110, 117, 108, 108]
  else if k = 10 then a ++ [33, 61, 110, 117, 108, 108]
  else if k = 11 then a ++ 61 :: 61 :: b
  else if k = 12 then a ++ 33 :: 61 :: b
  else []
def canL (l : List UInt8) (used : Bool) : Bool := if used then nameL l else l.isEmpty
def okL (k : Int) (a b : List UInt8) : Bool := canL a (decide (1 ≤ namesN k)) && canL b (decide (2 ≤ namesN k))
def textL (k : Int) (a b : List UInt8) : List UInt8 := if okL k a b then bodyL k a b else []

def nullOr (x y : Int) (l r : List UInt8) : Int × List UInt8 × List UInt8 := if r = [110, 117, 108, 108] then (x, l, []) else (y, l, r)
def assignL (l r : List UInt8) : Int × List UInt8 × List UInt8 :=
  if Lib.hasSuffix l [46, 110] then nullOr 6 7 (Lib.trimSuffix l [46, 110]) r
  else if Lib.hasSuffix r [46, 110] then (5, l, Lib.trimSuffix r [46, 110])
  else if r = [110, 101, 119] then (3, l, [])
  else nullOr 2 4 l r
def commandL (t : List UInt8) : Int × List UInt8 × List UInt8 :=
  if Lib.hasPrefix t [102, 114, 101, 101, 32] then (8, Lib.trimPrefix t [102, 114, 101, 101, 32], [])
  else if t = [115, 107, 105, 112] then (1, [], [])
  else (0, [], [])
def guessL (t : List UInt8) : Int × List UInt8 × List UInt8 :=
  if (Lib.cut t [61, 61]).2.2 then nullOr 9 11 (Lib.cut t [61, 61]).1 (Lib.cut t [61, 61]).2.1
  else if (Lib.cut t [33, 61]).2.2 then nullOr 10 12 (Lib.cut t [33, 61]).1 (Lib.cut t [33, 61]).2.1
  else if (Lib.cut t [61]).2.2 then assignL (Lib.cut t [61]).1 (Lib.cut t [61]).2.1
  else commandL t

/-- The longest words of small letters, from a place on, with the word that is under way. -/
def wordsFrom : List UInt8 → List UInt8 → List (List UInt8)
  | [], cur => if cur.isEmpty then [] else [cur]
  | c :: cs, cur => if small c then wordsFrom cs (cur ++ [c]) else if cur.isEmpty then wordsFrom cs [] else cur :: wordsFrom cs []
def namesL (t : List UInt8) : List (List UInt8) := [] :: [] :: (wordsFrom t []).take 3

theorem small_not {c d : UInt8} (h : small c = true) (hd : small d = false) : (d == c) = false ∧ (c == d) = false ∧ ¬ d = c ∧ ¬ c = d := by
  have hne : ¬ c = d := fun e => by rw [e, hd] at h; cases h
  exact ⟨by simpa using fun e => hne e.symm, by simpa using hne, fun e => hne e.symm, hne⟩
theorem nameL_cases {l : List UInt8} (h : nameL l = true) : (∃ c, l = [c] ∧ small c = true) ∨ ∃ c d, l = [c, d] ∧ small c = true ∧ small d = true := by
  match l, h with
  | [c], h => exact .inl ⟨c, rfl, h⟩
  | [c, d], h =>
    simp only [nameL, Bool.and_eq_true] at h
    exact .inr ⟨c, d, rfl, h.1, h.2⟩

theorem small_signs : small 61 = false ∧ small 33 = false ∧ small 46 = false ∧ small 32 = false := ⟨rfl, rfl, rfl, rfl⟩
theorem small_word : small 110 = true ∧ small 117 = true ∧ small 108 = true ∧ small 101 = true ∧ small 119 = true ∧ small 102 = true ∧ small 114 = true := ⟨rfl, rfl, rfl, rfl, rfl, rfl, rfl⟩

theorem guess_one (k : Int) (hk : k = 2 ∨ k = 3 ∨ k = 6 ∨ k = 8 ∨ k = 9 ∨ k = 10) (a : List UInt8) (ha : nameL a = true) :
    guessL (bodyL k a []) = (k, a, []) ∧ a ∈ namesL (bodyL k a []) ∧ bodyL k a [] ≠ [] := by
  rcases nameL_cases ha with ⟨c, rfl, hc⟩ | ⟨c, d, rfl, hc, hd⟩
  · obtain ⟨e1, e2, e3, e4⟩ := small_not hc (d := 61) rfl
    obtain ⟨b1, b2, b3, b4⟩ := small_not hc (d := 33) rfl
    obtain ⟨p1, p2, p3, p4⟩ := small_not hc (d := 46) rfl
    rcases hk with rfl | rfl | rfl | rfl | rfl | rfl <;>
      (refine ⟨?_, ?_, ?_⟩ <;> simp [bodyL, guessL, Lib.cut, Lib.index, nullOr, assignL, commandL, Lib.hasSuffix, Lib.hasPrefix, Lib.trimSuffix, Lib.trimPrefix, List.isSuffixOf, namesL, wordsFrom, small_signs, small_word, hc, e3, b3])
  · obtain ⟨e1, e2, e3, e4⟩ := small_not hc (d := 61) rfl
    obtain ⟨b1, b2, b3, b4⟩ := small_not hc (d := 33) rfl
    obtain ⟨p1, p2, p3, p4⟩ := small_not hc (d := 46) rfl
    obtain ⟨f1, f2, f3, f4⟩ := small_not hd (d := 61) rfl
    obtain ⟨g1, g2, g3, g4⟩ := small_not hd (d := 33) rfl
    obtain ⟨q1, q2, q3, q4⟩ := small_not hd (d := 46) rfl
    rcases hk with rfl | rfl | rfl | rfl | rfl | rfl <;>
      (refine ⟨?_, ?_, ?_⟩ <;> simp [bodyL, guessL, Lib.cut, Lib.index, nullOr, assignL, commandL, Lib.hasSuffix, Lib.hasPrefix, Lib.trimSuffix, Lib.trimPrefix, List.isSuffixOf, namesL, wordsFrom, small_signs, small_word, hc, e3, b3, p3, hd, f3, g3])

theorem guess_two (k : Int) (hk : k = 4 ∨ k = 5 ∨ k = 7 ∨ k = 11 ∨ k = 12) (a b : List UInt8) (ha : nameL a = true) (hb : nameL b = true) :
    guessL (bodyL k a b) = (k, a, b) ∧ a ∈ namesL (bodyL k a b) ∧ b ∈ namesL (bodyL k a b) ∧ bodyL k a b ≠ [] := by
  rcases nameL_cases ha with ⟨c, rfl, hc⟩ | ⟨c, d, rfl, hc, hd⟩ <;> rcases nameL_cases hb with ⟨x, rfl, hx⟩ | ⟨x, y, rfl, hx, hy⟩
  · obtain ⟨e1, e2, e3, e4⟩ := small_not hc (d := 61) rfl
    obtain ⟨b1, b2, b3, b4⟩ := small_not hc (d := 33) rfl
    obtain ⟨p1, p2, p3, p4⟩ := small_not hc (d := 46) rfl
    obtain ⟨u1, u2, u3, u4⟩ := small_not hx (d := 61) rfl
    obtain ⟨v1, v2, v3, v4⟩ := small_not hx (d := 33) rfl
    obtain ⟨t1, t2, t3, t4⟩ := small_not hx (d := 46) rfl
    rcases hk with rfl | rfl | rfl | rfl | rfl <;>
      (refine ⟨?_, ?_, ?_, ?_⟩ <;> simp [bodyL, guessL, Lib.cut, Lib.index, nullOr, assignL, Lib.hasSuffix, Lib.trimSuffix, List.isSuffixOf, namesL, wordsFrom, small_signs, small_word, hc, hx, e3, b3, u3, v3])
  · obtain ⟨e1, e2, e3, e4⟩ := small_not hc (d := 61) rfl
    obtain ⟨b1, b2, b3, b4⟩ := small_not hc (d := 33) rfl
    obtain ⟨p1, p2, p3, p4⟩ := small_not hc (d := 46) rfl
    obtain ⟨u1, u2, u3, u4⟩ := small_not hx (d := 61) rfl
    obtain ⟨v1, v2, v3, v4⟩ := small_not hx (d := 33) rfl
    obtain ⟨t1, t2, t3, t4⟩ := small_not hx (d := 46) rfl
    obtain ⟨r1, r2, r3, r4⟩ := small_not hy (d := 61) rfl
    obtain ⟨n1, n2, n3, n4⟩ := small_not hy (d := 33) rfl
    obtain ⟨m1, m2, m3, m4⟩ := small_not hy (d := 46) rfl
    rcases hk with rfl | rfl | rfl | rfl | rfl <;>
      (refine ⟨?_, ?_, ?_, ?_⟩ <;> simp [bodyL, guessL, Lib.cut, Lib.index, nullOr, assignL, Lib.hasSuffix, Lib.trimSuffix, List.isSuffixOf, namesL, wordsFrom, small_signs, small_word, hc, hx, hy, e3, b3, u3, v3, t3, r3, n3])
  · obtain ⟨e1, e2, e3, e4⟩ := small_not hc (d := 61) rfl
    obtain ⟨b1, b2, b3, b4⟩ := small_not hc (d := 33) rfl
    obtain ⟨p1, p2, p3, p4⟩ := small_not hc (d := 46) rfl
    obtain ⟨f1, f2, f3, f4⟩ := small_not hd (d := 61) rfl
    obtain ⟨g1, g2, g3, g4⟩ := small_not hd (d := 33) rfl
    obtain ⟨q1, q2, q3, q4⟩ := small_not hd (d := 46) rfl
    obtain ⟨u1, u2, u3, u4⟩ := small_not hx (d := 61) rfl
    obtain ⟨v1, v2, v3, v4⟩ := small_not hx (d := 33) rfl
    obtain ⟨t1, t2, t3, t4⟩ := small_not hx (d := 46) rfl
    rcases hk with rfl | rfl | rfl | rfl | rfl <;>
      (refine ⟨?_, ?_, ?_, ?_⟩ <;> simp [bodyL, guessL, Lib.cut, Lib.index, nullOr, assignL, Lib.hasSuffix, Lib.trimSuffix, List.isSuffixOf, namesL, wordsFrom, small_signs, small_word, hc, hd, hx, e3, b3, p3, f3, g3, u3, v3])
  · obtain ⟨e1, e2, e3, e4⟩ := small_not hc (d := 61) rfl
    obtain ⟨b1, b2, b3, b4⟩ := small_not hc (d := 33) rfl
    obtain ⟨p1, p2, p3, p4⟩ := small_not hc (d := 46) rfl
    obtain ⟨f1, f2, f3, f4⟩ := small_not hd (d := 61) rfl
    obtain ⟨g1, g2, g3, g4⟩ := small_not hd (d := 33) rfl
    obtain ⟨q1, q2, q3, q4⟩ := small_not hd (d := 46) rfl
    obtain ⟨u1, u2, u3, u4⟩ := small_not hx (d := 61) rfl
    obtain ⟨v1, v2, v3, v4⟩ := small_not hx (d := 33) rfl
    obtain ⟨t1, t2, t3, t4⟩ := small_not hx (d := 46) rfl
    obtain ⟨r1, r2, r3, r4⟩ := small_not hy (d := 61) rfl
    obtain ⟨n1, n2, n3, n4⟩ := small_not hy (d := 33) rfl
    obtain ⟨m1, m2, m3, m4⟩ := small_not hy (d := 46) rfl
    rcases hk with rfl | rfl | rfl | rfl | rfl <;>
      (refine ⟨?_, ?_, ?_, ?_⟩ <;> simp [bodyL, guessL, Lib.cut, Lib.index, nullOr, assignL, Lib.hasSuffix, Lib.trimSuffix, List.isSuffixOf, namesL, wordsFrom, small_signs, small_word, hc, hd, hx, hy, e3, b3, p3, f3, g3, u3, v3, t3, r3, n3])

theorem guess_text (k : Int) (a b : List UInt8) (h : textL k a b ≠ []) : guessL (textL k a b) = (k, a, b) ∧ (1 ≤ k ∧ k ≤ 12) ∧ a ∈ namesL (textL k a b) ∧ b ∈ namesL (textL k a b) := by
  by_cases hok : okL k a b = true
  · simp only [textL, hok, if_true] at h ⊢
    by_cases hk : 1 ≤ k ∧ k ≤ 12
    · simp only [okL, Bool.and_eq_true] at hok
      obtain ⟨h1, h2⟩ := hok
      rcases (show k = 1 ∨ (k = 2 ∨ k = 3 ∨ k = 6 ∨ k = 8 ∨ k = 9 ∨ k = 10) ∨ (k = 4 ∨ k = 5 ∨ k = 7 ∨ k = 11 ∨ k = 12) by omega) with rfl | hg | hg
      · simp [namesN, canL] at h1 h2
        subst h1; subst h2
        decide
      · have hn : namesN k = 1 := by rcases hg with rfl | rfl | rfl | rfl | rfl | rfl <;> rfl
        simp [hn, canL] at h1 h2
        subst h2
        have g := guess_one k hg a h1
        exact ⟨g.1, hk, g.2.1, by simp [namesL]⟩
      · have hn : namesN k = 2 := by rcases hg with rfl | rfl | rfl | rfl | rfl <;> rfl
        simp [hn, canL] at h1 h2
        have g := guess_two k hg a b h1 h2
        exact ⟨g.1, hk, g.2.1, g.2.2.1⟩
    · exact absurd (by unfold bodyL; repeat (rw [if_neg (by omega)])) h
  · exact absurd (by simp [textL, hok]) h

/-- A text is a statement's exactly if its guess has it for a text. -/
def parsesL (t : List UInt8) : Bool := !t.isEmpty && (textL (guessL t).1 (guessL t).2.1 (guessL t).2.2 == t)
theorem parses_of {k : Int} {a b t : List UInt8} (h : textL k a b = t) (hne : t ≠ []) : parsesL t = true ∧ guessL t = (k, a, b) := by
  subst h
  have g := guess_text k a b hne
  refine ⟨?_, g.1⟩
  unfold parsesL
  rw [g.1]
  simpa using hne
theorem parses_text {t : List UInt8} (h : parsesL t = true) : t ≠ [] ∧ textL (guessL t).1 (guessL t).2.1 (guessL t).2.2 = t := by
  simp only [parsesL, Bool.and_eq_true, Bool.not_eq_true', beq_iff_eq] at h
  refine ⟨fun e => ?_, h.2⟩
  rw [e] at h
  simp at h
theorem parses_names {t : List UInt8} (h : parsesL t = true) : (1 ≤ (guessL t).1 ∧ (guessL t).1 ≤ 12) ∧ (guessL t).2.1 ∈ namesL t ∧ (guessL t).2.2 ∈ namesL t := by
  obtain ⟨h1, h2⟩ := parses_text h
  have g := guess_text (guessL t).1 (guessL t).2.1 (guessL t).2.2 (by rw [h2]; exact h1)
  rw [h2] at g
  exact g.2

/-- The same over strings. -/
def textS (k : Int) (a b : ByteArray) : ByteArray := ⟨(textL k a.data.toList b.data.toList).toArray⟩
def guessK (t : ByteArray) : Int := (guessL t.data.toList).1
def guessA (t : ByteArray) : ByteArray := ⟨(guessL t.data.toList).2.1.toArray⟩
def guessB (t : ByteArray) : ByteArray := ⟨(guessL t.data.toList).2.2.toArray⟩
def parsesS (t : ByteArray) : Bool := parsesL t.data.toList
def namesS (t : ByteArray) : List ByteArray := (namesL t.data.toList).map fun l => ⟨l.toArray⟩
theorem textS_data (k : Int) (a b : ByteArray) : (textS k a b).data.toList = textL k a.data.toList b.data.toList := by simp [textS]
theorem parsesS_of {k : Int} {a b t : ByteArray} (h : textS k a b = t) (hne : t ≠ ⟨#[]⟩) : parsesS t = true ∧ guessK t = k ∧ guessA t = a ∧ guessB t = b := by
  subst h
  have hne' : (textS k a b).data.toList ≠ [] := fun e => hne (bytes_ext (by rw [e]))
  have g := parses_of (textS_data k a b).symm hne'
  refine ⟨g.1, ?_, ?_, ?_⟩
  · simp only [guessK, g.2]
  · simp only [guessA, g.2]
  · simp only [guessB, g.2]
theorem parsesS_text {t : ByteArray} (h : parsesS t = true) : t ≠ ⟨#[]⟩ ∧ textS (guessK t) (guessA t) (guessB t) = t := by
  have g := parses_text h
  refine ⟨fun e => g.1 (by rw [e]), bytes_ext ?_⟩
  rw [textS_data]
  simpa [guessK, guessA, guessB] using g.2
theorem parsesS_no {t : ByteArray} (h : parsesS t = false) (hne : t ≠ ⟨#[]⟩) (k : Int) (a b : ByteArray) : textS k a b ≠ t := by
  intro e
  have := (parsesS_of e hne).1
  rw [h] at this
  cases this
theorem parsesS_names {t : ByteArray} (h : parsesS t = true) : (1 ≤ guessK t ∧ guessK t ≤ 12) ∧ guessA t ∈ namesS t ∧ guessB t ∈ namesS t := by
  have g := parses_names h
  exact ⟨g.1, List.mem_map.2 ⟨_, g.2.1, rfl⟩, List.mem_map.2 ⟨_, g.2.2, rfl⟩⟩
theorem parsesS_empty : parsesS ⟨#[]⟩ = false := rfl
end Go.Proofs.YtabedmjaodinbaaGreatDoor
