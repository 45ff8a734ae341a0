/-
  Cutting a list of bytes at every occurrence of one byte. Nothing here knows of the program.
-/
import Derived.Test.YtabedmjaodinbaaGreatDoorWords
import Derived.Lib.SplitLaws
import Derived.Lib.IndexBytes
namespace Go.Proofs.YtabedmjaodinbaaGreatDoor
open Go

def cut (c : UInt8) : List UInt8 → List (List UInt8)
  | [] => [[]]
  | x :: r => if x = c then [] :: cut c r else match cut c r with
    | [] => [[x]]
    | h :: t => (x :: h) :: t
theorem cut_ne (c : UInt8) : ∀ l, cut c l ≠ []
  | [] => by simp [cut]
  | x :: r => by
    unfold cut
    split
    · simp
    · split <;> simp
theorem cut_none (c : UInt8) : ∀ l : List UInt8, (∀ x ∈ l, x ≠ c) → cut c l = [l]
  | [], _ => rfl
  | x :: r, h => by
    have ih := cut_none c r fun y hy => h y (by simp [hy])
    unfold cut
    rw [if_neg (h x (by simp)), ih]
theorem cut_hit (c : UInt8) : ∀ (p r : List UInt8), (∀ x ∈ p, x ≠ c) → cut c (p ++ c :: r) = p :: cut c r
  | [], r, _ => by simp [cut]
  | x :: p, r, h => by
    have ih := cut_hit c p r fun y hy => h y (by simp [hy])
    rw [List.cons_append, cut, if_neg (h x (by simp)), ih]
/-- The pieces as strings. -/
def mkS (l : List UInt8) : ByteArray := ⟨l.toArray⟩
def pieces (c : UInt8) (s : ByteArray) : List ByteArray := (cut c s.data.toList).map mkS
theorem mkS_list (s : ByteArray) : mkS s.data.toList = s := rfl
theorem mkS_toList (l : List UInt8) : (mkS l).data.toList = l := rfl

theorem splitK_cut (c : UInt8) : ∀ (k : Nat) (l : List UInt8), l.length ≤ k → Lib.splitK [c] 0 (Lib.count l [c]) l = cut c l := by
  intro k
  induction k with
  | zero =>
    intro l h
    have : l = [] := List.eq_nil_of_length_eq_zero (by omega)
    subst this
    have h1 : Lib.index [] [c] = -1 := by simp [Lib.index]
    rw [Lib.count_miss h1]
    rfl
  | succ k ih =>
    intro l h
    have h1 := Lib.index_one l c
    have hge := Lib.indexByte_ge l c
    by_cases hm : Lib.indexByte l c = -1
    · rw [Lib.count_miss (by rw [h1]; exact hm)]
      rw [cut_none c l]
      · rfl
      · intro x hx e
        subst e
        obtain ⟨j, hj⟩ := List.getElem?_of_mem hx
        exact Lib.indexByte_none hm j hj
    · obtain ⟨o, ho⟩ : ∃ o : Nat, Lib.indexByte l c = o := ⟨(Lib.indexByte l c).toNat, by omega⟩
      obtain ⟨hs1, hs2⟩ := Lib.indexByte_some ho
      have hol : o < l.length := (List.getElem?_eq_some_iff.1 hs1).1
      have hoc : l[o] = c := (List.getElem?_eq_some_iff.1 hs1).2
      have hix : Lib.index l [c] = o := by rw [h1, ho]
      have hsplit : l = l.take o ++ c :: l.drop (o + 1) := by
        conv => lhs; rw [← List.take_append_drop o l, List.drop_eq_getElem_cons hol, hoc]
      have hcut : cut c l = l.take o :: cut c (l.drop (o + 1)) := by
        conv => lhs; rw [hsplit]
        refine cut_hit c _ _ fun x hx e => ?_
        subst e
        obtain ⟨j, hj⟩ := List.getElem?_of_mem hx
        have hjo : j < o := by
          have := (List.getElem?_eq_some_iff.1 hj).1
          rw [List.length_take] at this
          omega
        rw [List.getElem?_take_of_lt hjo] at hj
        exact hs2 j hjo hj
      have hcount := Lib.count_hit (s := l) (sub := [c]) (i := o) (by simp) hix
      rw [hcount, hcut, Nat.add_comm, Lib.splitK, hix, if_neg (by simp)]
      simp only [Int.toNat_natCast, Nat.add_zero, List.length_singleton]
      rw [ih _ (by rw [List.length_drop]; omega)]

theorem bytes_inj {a b : ByteArray} (h : a.data.toList = b.data.toList) : a = b := by
  apply ByteArray.ext
  exact Array.toList_inj.1 h
theorem lists_inj : ∀ {a b : List ByteArray}, a.map (·.data.toList) = b.map (·.data.toList) → a = b
  | [], [], _ => rfl
  | [], _ :: _, h => by simp at h
  | _ :: _, [], h => by simp at h
  | x :: a, y :: b, h => by
    simp only [List.map_cons, List.cons.injEq] at h
    rw [bytes_inj h.1, lists_inj h.2]
theorem splitB_pieces (c : UInt8) (s : ByteArray) : Lib.splitB ⟨#[c]⟩ 0 (Lib.countB s ⟨#[c]⟩) s = pieces c s := by
  apply lists_inj
  rw [Lib.splitB_data, pieces, List.map_map]
  have h := splitK_cut c s.data.toList.length s.data.toList (Nat.le_refl _)
  have e : (⟨#[c]⟩ : ByteArray).data.toList = [c] := rfl
  show Lib.splitK (⟨#[c]⟩ : ByteArray).data.toList 0 (Lib.count s.data.toList (⟨#[c]⟩ : ByteArray).data.toList) s.data.toList = _
  rw [e, h]
  conv => lhs; rw [← List.map_id (cut c s.data.toList)]
  rfl
theorem cut_length (c : UInt8) : ∀ l : List UInt8, (cut c l).length ≤ l.length + 1
  | [] => by simp [cut]
  | x :: r => by
    have ih := cut_length c r
    unfold cut
    split
    · simp; omega
    · split
      · simp
      · rename_i h1 h2 h3 h4
        rw [h4] at ih
        simp at ih ⊢
        omega
theorem pieces_length (c : UInt8) (s : ByteArray) : (pieces c s).length ≤ s.size + 1 := by
  have := cut_length c s.data.toList
  simpa [pieces] using this
theorem pieces_count (c : UInt8) (s : ByteArray) : (pieces c s).length = Lib.countB s ⟨#[c]⟩ + 1 := by
  rw [← splitB_pieces, Lib.splitB_all ⟨#[c]⟩ (by show 1 ≤ 1; omega) 0 _ s rfl]
theorem cut_pieces (c : UInt8) : ∀ l : List UInt8, ∀ p ∈ cut c l, ∀ x ∈ p, x ≠ c
  | [], p, hp, x, hx => by
    simp only [cut, List.mem_singleton] at hp
    subst hp
    simp at hx
  | y :: r, p, hp, x, hx => by
    have ih := cut_pieces c r
    unfold cut at hp
    split at hp
    · rcases List.mem_cons.1 hp with rfl | hp
      · simp at hx
      · exact ih p hp x hx
    · rename_i hy
      split at hp
      · simp only [List.mem_singleton] at hp
        subst hp
        simp only [List.mem_singleton] at hx
        subst hx
        exact hy
      · rename_i h t he
        rw [he] at ih
        rcases List.mem_cons.1 hp with rfl | hp
        · rcases List.mem_cons.1 hx with rfl | hx
          · exact hy
          · exact ih h (by simp) x hx
        · exact ih p (by simp [hp]) x hx
/-- One piece more: from the last cut up to an occurrence; and the last one. -/
theorem cut_step {c : UInt8} {l : List UInt8} {a b : Nat} (hab : a ≤ b) (hb : b < l.length) (hc : l[b] = c) (hno : ∀ x ∈ (l.drop a).take (b - a), x ≠ c) : cut c (l.drop a) = (l.drop a).take (b - a) :: cut c (l.drop (b + 1)) := by
  have e : l.drop a = (l.drop a).take (b - a) ++ c :: l.drop (b + 1) := by
    conv => lhs; rw [← List.take_append_drop (b - a) (l.drop a), List.drop_drop]
    rw [show a + (b - a) = b by omega, List.drop_eq_getElem_cons hb, hc]
  conv => lhs; rw [e]
  exact cut_hit c _ _ hno
theorem seg_next {c : UInt8} {l : List UInt8} {a b : Nat} (hab : a ≤ b) (hb : b < l.length) (hc : l[b] ≠ c) (hno : ∀ x ∈ (l.drop a).take (b - a), x ≠ c) : ∀ x ∈ (l.drop a).take (b + 1 - a), x ≠ c := by
  rw [show b + 1 - a = (b - a) + 1 by omega, List.take_succ_eq_append_getElem (by rw [List.length_drop]; omega)]
  intro x hx
  rcases List.mem_append.1 hx with hx | hx
  · exact hno x hx
  · simp only [List.mem_singleton, List.getElem_drop] at hx
    subst hx
    have : a + (b - a) = b := by omega
    simpa [this] using hc
theorem extract_list (s : ByteArray) (a b : Nat) : (s.extract a b).data.toList = (s.data.toList.drop a).take (b - a) := by
  simp
end Go.Proofs.YtabedmjaodinbaaGreatDoor
