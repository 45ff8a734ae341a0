/-
  Decimal numerals as lists of bytes: their value, that reading undoes writing, what the model's reader and the program's reader come to. Nothing here knows of the program.
-/
import Derived.Test.YtabedmjaodinbaaGreatDoorDigits
import Derived.Lib.AtoiAll
namespace Go.Proofs.YtabedmjaodinbaaGreatDoor
open Go

def isDig (c : UInt8) : Bool := decide (48 ≤ c.toNat ∧ c.toNat ≤ 57)
def dstep (a : Nat) (c : UInt8) : Nat := 10 * a + (c.toNat - 48)
/-- The value of a row of digits. -/
def dval (l : List UInt8) : Nat := l.foldl dstep 0
theorem dval_snoc (l : List UInt8) (c : UInt8) : dval (l ++ [c]) = 10 * dval l + (c.toNat - 48) := by simp [dval, dstep]
theorem ofNat_digit (k : Nat) (h : k < 10) : (UInt8.ofNat (48 + k)).toNat = 48 + k := by simp; omega
theorem digs_dval : ∀ (k u : Nat), u ≤ k → dval (digs u) = u
  | 0, u, h => by
    obtain rfl : u = 0 := by omega
    rfl
  | k + 1, u, h => by
    by_cases h0 : 0 < u
    · rw [digs_next h0, dval_snoc, digs_dval k (u / 10) (by omega), ofNat_digit _ (by omega)]
      omega
    · obtain rfl : u = 0 := by omega
      rfl
theorem digs_all : ∀ (k u : Nat), u ≤ k → (digs u).all isDig = true
  | 0, u, h => by
    obtain rfl : u = 0 := by omega
    rfl
  | k + 1, u, h => by
    by_cases h0 : 0 < u
    · rw [digs_next h0, List.all_append, digs_all k (u / 10) (by omega)]
      have := ofNat_digit (u % 10) (by omega)
      simp only [List.all_cons, List.all_nil, Bool.and_true, Bool.true_and, isDig, this, decide_eq_true_eq]
      omega
    · obtain rfl : u = 0 := by omega
      rfl
theorem digs_len : ∀ (k u : Nat), u < 10 ^ k → (digs u).length ≤ k
  | 0, u, h => by
    obtain rfl : u = 0 := by simpa using h
    simp [digs_zero]
  | k + 1, u, h => by
    by_cases h0 : 0 < u
    · have h2 : u / 10 < 10 ^ k := by rw [Nat.pow_succ] at h; omega
      have := digs_len k (u / 10) h2
      rw [digs_next h0, List.length_append, List.length_singleton]
      omega
    · obtain rfl : u = 0 := by omega
      simp [digs_zero]
theorem dec_zero : Lib.decDigits 0 = [48] := by rw [Lib.decDigits_one (by omega)]; rfl
theorem dec_dval (u : Nat) : dval (Lib.decDigits u) = u := by
  by_cases h : 0 < u
  · rw [← digs_pos h]; exact digs_dval u u (Nat.le_refl _)
  · obtain rfl : u = 0 := by omega
    rw [dec_zero]; rfl
theorem dec_all (u : Nat) : (Lib.decDigits u).all isDig = true := by
  by_cases h : 0 < u
  · rw [← digs_pos h]; exact digs_all u u (Nat.le_refl _)
  · obtain rfl : u = 0 := by omega
    rw [dec_zero]; rfl
theorem dec_len (u k : Nat) (hk : 0 < k) (h : u < 10 ^ k) : (Lib.decDigits u).length ≤ k := by
  by_cases h0 : 0 < u
  · rw [← digs_pos h0]; exact digs_len k u h
  · obtain rfl : u = 0 := by omega
    rw [dec_zero]; simp; omega
theorem dec_ne (u : Nat) : Lib.decDigits u ≠ [] := by
  by_cases h0 : 0 < u
  · rw [← digs_pos h0, digs_next h0]; simp
  · obtain rfl : u = 0 := by omega
    rw [dec_zero]; simp
theorem dec_head (u : Nat) : (Lib.decDigits u).head? ≠ some 45 := by
  intro h
  have hm := List.mem_of_head? h
  have := List.all_eq_true.1 (dec_all u) _ hm
  simp [isDig] at this

theorem dval_lt : ∀ (l : List UInt8), l.all isDig = true → dval l < 10 ^ l.length := by
  intro l
  have h : ∀ (l : List UInt8) (a : Nat), l.all isDig = true → l.foldl dstep a < (a + 1) * 10 ^ l.length := by
    intro l
    induction l with
    | nil => intro a _; simp
    | cons c r ih =>
      intro a hall
      simp only [List.all_cons, Bool.and_eq_true] at hall
      have hc := hall.1
      simp only [isDig, decide_eq_true_eq] at hc
      have := ih (dstep a c) hall.2
      simp only [List.foldl_cons, List.length_cons]
      refine Nat.lt_of_lt_of_le this ?_
      rw [Nat.pow_succ, Nat.mul_comm (10 ^ r.length) 10, ← Nat.mul_assoc]
      refine Nat.mul_le_mul_right _ ?_
      unfold dstep
      omega
  intro hall
  simpa [dval] using h l 0 hall

/-- What the model's reader comes to. -/
def bodyOf (l : List UInt8) : List UInt8 := if l.head? = some 45 then l.tail else l
def valOf (l : List UInt8) : Int := if l.head? = some 45 then -(dval (bodyOf l) : Int) else dval (bodyOf l)
def goodFor (most : Nat) (l : List UInt8) : Bool := decide (1 ≤ (bodyOf l).length ∧ (bodyOf l).length ≤ most ∧ (bodyOf l).all isDig = true ∧ Lib.itoa (valOf l) = l)

theorem itoa_neg (u : Nat) (h : 1 ≤ u) : Lib.itoa (-(u : Int)) = 45 :: Lib.decDigits u := by unfold Lib.itoa; rw [if_pos (by omega)]; simp
theorem itoa_nat (u : Nat) : Lib.itoa (u : Int) = Lib.decDigits u := by unfold Lib.itoa; rw [if_neg (by omega)]; simp

/-- A numeral is read as what was written. -/
theorem good_itoa (n : Int) (most : Nat) (hm : 0 < most) (h : n.natAbs < 10 ^ most) : goodFor most (Lib.itoa n) = true ∧ valOf (Lib.itoa n) = n := by
  rcases Int.lt_or_le n 0 with hn | hn
  · obtain ⟨u, rfl, hu⟩ : ∃ u : Nat, n = -(u : Int) ∧ 1 ≤ u := ⟨n.natAbs, by omega, by omega⟩
    have h2 : u < 10 ^ most := by simpa using h
    have e1 : bodyOf (Lib.itoa (-(u : Int))) = Lib.decDigits u := by rw [itoa_neg u hu]; rfl
    have e2 : valOf (Lib.itoa (-(u : Int))) = -(u : Int) := by
      unfold valOf
      rw [e1, dec_dval, itoa_neg u hu]
      simp
    refine ⟨?_, e2⟩
    have h1 : 1 ≤ (Lib.decDigits u).length := List.length_pos_iff.2 (dec_ne u)
    simp only [goodFor, e1, e2, dec_all, decide_eq_true_eq]
    exact ⟨h1, dec_len u most hm h2, trivial, trivial⟩
  · obtain ⟨u, rfl⟩ : ∃ u : Nat, n = (u : Int) := ⟨n.natAbs, by omega⟩
    have h2 : u < 10 ^ most := by simpa using h
    have e1 : bodyOf (Lib.itoa (u : Int)) = Lib.decDigits u := by rw [itoa_nat, bodyOf, if_neg (dec_head u)]
    have e2 : valOf (Lib.itoa (u : Int)) = (u : Int) := by
      unfold valOf
      rw [e1, dec_dval, itoa_nat, if_neg (dec_head u)]
    refine ⟨?_, e2⟩
    have h1 : 1 ≤ (Lib.decDigits u).length := List.length_pos_iff.2 (dec_ne u)
    simp only [goodFor, e1, e2, dec_all, decide_eq_true_eq]
    exact ⟨h1, dec_len u most hm h2, trivial, trivial⟩
theorem good_val {most : Nat} {l : List UInt8} (h : goodFor most l = true) : Lib.itoa (valOf l) = l ∧ (valOf l).natAbs < 10 ^ most := by
  simp only [goodFor, decide_eq_true_eq] at h
  refine ⟨h.2.2.2, ?_⟩
  have h1 := dval_lt (bodyOf l) h.2.2.1
  have h2 : 10 ^ (bodyOf l).length ≤ 10 ^ most := Nat.pow_le_pow_right (by omega) h.2.1
  have h3 : (valOf l).natAbs = dval (bodyOf l) := by unfold valOf; split <;> simp
  omega

/-- What the library's reader comes to at a numeral. -/
theorem parse_small : ∀ (l : List UInt8) (a : Nat), l.all isDig = true → l.foldl dstep a < 1000000000000000000 → Lib.parseUint10 a l = .ok (l.foldl dstep a)
  | [], a, _, _ => rfl
  | c :: r, a, hall, h => by
    simp only [List.all_cons, Bool.and_eq_true] at hall
    have hc := hall.1
    simp only [isDig, decide_eq_true_eq] at hc
    have hmono : ∀ (r : List UInt8) (a : Nat), a ≤ r.foldl dstep a := by
      intro r
      induction r with
      | nil => intro a; exact Nat.le_refl _
      | cons x r ih => intro a; exact Nat.le_trans (by unfold dstep; omega) (ih (dstep a x))
    have h1 : dstep a c < 1000000000000000000 := Nat.lt_of_le_of_lt (hmono r _) h
    have h2 : a * 10 + (c.toNat - 48) = dstep a c := by unfold dstep; omega
    simp only [Lib.parseUint10, List.foldl_cons]
    rw [if_pos hc, if_neg (by unfold dstep at h1; omega), h2, if_neg (by omega)]
    exact parse_small r _ hall.2 h
theorem mag_dec (u : Nat) (h : u < 1000000000000000000) : Lib.parseMag (Lib.decDigits u) = .ok u := by
  unfold Lib.parseMag
  rw [if_neg (dec_ne u)]
  have hv : (Lib.decDigits u).foldl dstep 0 = u := dec_dval u
  rw [parse_small _ 0 (dec_all u) (by rw [hv]; exact h), hv]
theorem atoi_itoa (n : Int) (h : n.natAbs < 1000000000000000000) : Lib.atoiAll (Lib.itoa n) = .ok n := by
  rcases Int.lt_or_le n 0 with hn | hn
  · obtain ⟨u, rfl, hu⟩ : ∃ u : Nat, n = -(u : Int) ∧ 1 ≤ u := ⟨n.natAbs, by omega, by omega⟩
    have h2 : u < 1000000000000000000 := by simpa using h
    rw [itoa_neg u hu]
    simp [Lib.atoiAll, mag_dec u h2]
    omega
  · obtain ⟨u, rfl⟩ : ∃ u : Nat, n = (u : Int) := ⟨n.natAbs, by omega⟩
    have h2 : u < 1000000000000000000 := by simpa using h
    rw [itoa_nat]
    match hd : Lib.decDigits u with
    | [] => exact absurd hd (dec_ne u)
    | c :: r =>
      have hc := dec_all u
      rw [hd, List.all_cons, Bool.and_eq_true] at hc
      have hc1 := hc.1
      simp only [isDig, decide_eq_true_eq] at hc1
      have hm := mag_dec u h2
      rw [hd] at hm
      simp only [Lib.atoiAll]
      rw [if_neg (by omega), hm]
      simp only []
      rw [if_neg (by omega), if_neg (by omega), if_neg (by omega)]

/-- The string is the numeral of a number from lo to hi. -/
def num (lo hi : Int) (l : List UInt8) : Bool := goodFor 12 l && (decide (lo ≤ valOf l) && decide (valOf l ≤ hi))
theorem good_abs {most : Nat} (hm : most ≤ 12) {l : List UInt8} (h : goodFor most l = true) : (valOf l).natAbs < 1000000000000 := by
  have h1 := (good_val h).2
  have h2 : 10 ^ most ≤ 10 ^ 12 := Nat.pow_le_pow_right (by omega) hm
  omega
theorem num_int (l : List UInt8) : num (-999999999999) 999999999999 l = goodFor 12 l := by
  unfold num
  cases h : goodFor 12 l with
  | false => rfl
  | true =>
    have := good_abs (Nat.le_refl 12) h
    simp only [Bool.true_and, Bool.and_eq_true, decide_eq_true_eq]
    omega
theorem num_number (l : List UInt8) : num 0 999999 l = (goodFor 6 l && decide (0 ≤ valOf l)) := by
  rw [Bool.eq_iff_iff]
  simp only [num, Bool.and_eq_true, decide_eq_true_eq]
  constructor
  · rintro ⟨h, h0, h1⟩
    refine ⟨?_, h0⟩
    have hg := good_itoa (valOf l) 6 (by omega) (by omega)
    rw [(good_val h).1] at hg
    exact hg.1
  · rintro ⟨h, h0⟩
    have hv := (good_val h).2
    have hg := good_itoa (valOf l) 12 (by omega) (by omega)
    rw [(good_val h).1] at hg
    exact ⟨hg.1, h0, by omega⟩
theorem atoi_num {lo hi : Int} {l : List UInt8} (h : num lo hi l = true) : Lib.atoiAll l = .ok (valOf l) ∧ lo ≤ valOf l ∧ valOf l ≤ hi ∧ Lib.itoa (valOf l) = l := by
  simp only [num, Bool.and_eq_true, decide_eq_true_eq] at h
  have h1 := good_val h.1
  have h2 := atoi_itoa (valOf l) (by have := good_abs (Nat.le_refl 12) h.1; omega)
  rw [h1.1] at h2
  exact ⟨h2, h.2.1, h.2.2, h1.1⟩
theorem num_atoi {lo hi v : Int} {l : List UInt8} (hlo : -999999999999 ≤ lo) (hhi : hi ≤ 999999999999) (h0 : lo ≤ v) (h1 : v ≤ hi) (h : Lib.itoa v = l) : num lo hi l = true := by
  have hg := good_itoa v 12 (by omega) (by omega)
  rw [h] at hg
  simp only [num, Bool.and_eq_true, decide_eq_true_eq, hg.1, hg.2, true_and]
  exact ⟨h0, h1⟩

/-- Written and read: how many digits decide. -/
theorem val_itoa (n : Int) : valOf (Lib.itoa n) = n ∧ bodyOf (Lib.itoa n) = Lib.decDigits n.natAbs := by
  rcases Int.lt_or_le n 0 with hn | hn
  · obtain ⟨u, rfl, hu⟩ : ∃ u : Nat, n = -(u : Int) ∧ 1 ≤ u := ⟨n.natAbs, by omega, by omega⟩
    have e1 : bodyOf (Lib.itoa (-(u : Int))) = Lib.decDigits u := by rw [itoa_neg u hu]; rfl
    refine ⟨?_, by rw [e1]; simp⟩
    unfold valOf
    rw [e1, dec_dval, itoa_neg u hu]
    simp
  · obtain ⟨u, rfl⟩ : ∃ u : Nat, n = (u : Int) := ⟨n.natAbs, by omega⟩
    have e1 : bodyOf (Lib.itoa (u : Int)) = Lib.decDigits u := by rw [itoa_nat, bodyOf, if_neg (dec_head u)]
    refine ⟨?_, by rw [e1]; simp⟩
    unfold valOf
    rw [e1, dec_dval, itoa_nat, if_neg (dec_head u)]
theorem good_dec (n : Int) (most : Nat) : goodFor most (Lib.itoa n) = decide ((Lib.decDigits n.natAbs).length ≤ most) := by
  have h1 : 1 ≤ (Lib.decDigits n.natAbs).length := List.length_pos_iff.2 (dec_ne _)
  simp [goodFor, val_itoa n, dec_all, h1]
theorem itoa_len (n : Int) : (Lib.itoa n).length = (Lib.decDigits n.natAbs).length + if n < 0 then 1 else 0 := by
  unfold Lib.itoa
  split
  · simp
  · rw [show n.toNat = n.natAbs by omega]
    rfl
/-- What the law asks of ParseInt on FormatInt's text. -/
theorem num_itoa (n : Int) : num (-999999999999) 999999999999 (Lib.itoa n) = (decide ((Lib.itoa n).length ≤ 12) || (decide (n < 0) && decide ((Lib.itoa n).length ≤ 13))) := by
  rw [num_int, good_dec, itoa_len, Bool.eq_iff_iff]
  simp only [Bool.or_eq_true, Bool.and_eq_true, decide_eq_true_eq]
  split <;> omega
end Go.Proofs.YtabedmjaodinbaaGreatDoor
