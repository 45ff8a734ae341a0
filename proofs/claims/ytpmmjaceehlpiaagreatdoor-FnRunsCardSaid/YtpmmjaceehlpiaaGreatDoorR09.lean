/-
  Several texts of one proof in one file, in the order in which they build.
-/
import Derived.RegionTactic
import Derived.ChangeAlike
import Derived.Deep.RegionHeld3
import Derived.Test.YtpmmjaceehlpiaaGreatDoorR07
import Derived.Test.YtpmmjaceehlpiaaGreatDoorR02
/-
  A text that a draw turns a little: of what is drawn only its length is told.
-/
namespace Go.Proofs.YtpmmjaceehlpiaaGreatDoor
open Go Go.RowKit

/-- A text of at most n bytes, drawn. -/
def TextDrawn (g n : Nat) (w : World) (e : Ending) (w' : World) : Prop := ∃ s : ByteArray, s.size ≤ n ∧ e = .returned (.string s) ∧ Cur w' g ∧ w.grownBy w' (some g)
theorem extract_size (s : ByteArray) (i j : Nat) : (s.extract i j).size ≤ s.size := by
  rw [ByteArray.size_extract]
  omega
theorem joined_size {s x : ByteArray} {i n : Nat} (hs : s.size ≤ n) (hx : x.size ≤ 21) (hi : i ≤ s.size) : (s.extract 0 i ++ x ++ s.extract i s.size).size ≤ n + 21 := by
  rw [ByteArray.size_append, ByteArray.size_append, ByteArray.size_extract, ByteArray.size_extract]
  omega

theorem Beside.only {w w' : World} {g : Nat} {a : Option Addr} {xs : List Value} (h : Beside w g a xs) (hg : w.grownBy w' (some g)) : Beside w' g a xs := by
  intro k x hx
  obtain ⟨b, o, rfl, hne, hb, hc⟩ := h k x hx
  exact ⟨b, o, rfl, hne, Nat.lt_of_lt_of_le hb hg.size, hg.cell hc (fun e => hne (Option.some.inj e))⟩

def PickS (g : Nat) (ss : List ByteArray) (w : World) (e : Ending) (w' : World) : Prop := ∃ s ∈ ss, e = .returned (.string s) ∧ Cur w' g ∧ w.grownBy w' (some g)
theorem drawPickS (g cap : Nat) (a : Option Addr) (ss : List ByteArray) (w : World) (h0 : 0 < ss.length) (h1 : ss.length ≤ 1099511627776) (hcur : Cur w g) (hl : Beside w g a (strVals ss)) :
    Calls Tryz.prog 123 #[.pointer (some ⟨g, 0, none⟩), .slice a ss.length cap] w (PickS g ss w) := by
  refine (drawPick g cap a ss w h0 h1 hcur hl).mono ?_
  rintro e w' ⟨v, hv, rfl, hc, hw⟩
  obtain ⟨s, hm, rfl⟩ := List.mem_map.1 hv
  exact ⟨s, hm, rfl, hc, hw⟩

end Go.Proofs.YtpmmjaceehlpiaaGreatDoor
/-
  The draws of chapter 4: a statement, one that is bent, a kind, a list of variables: of what is drawn only the range is told.
-/
namespace Go.Proofs.YtpmmjaceehlpiaaGreatDoor
open Go Go.RowKit

theorem gcell {W w1 : World} {g : Nat} (h : W.grownBy w1 (some g)) : (∀ b o, b < W.heap.size → ¬ b = g → w1.cell? ⟨b, o, none⟩ = W.cell? ⟨b, o, none⟩) ∧ (∀ b o, b < W.heap.size → ¬ b = g → w1.frozen? ⟨b, o, none⟩ = W.frozen? ⟨b, o, none⟩) :=
  ⟨fun b _ hb hne => World.cell?_of_block (h.block b hb (fun e => hne (Option.some.inj e))), fun b _ hb hne => World.frozen?_of_block (h.block b hb (fun e => hne (Option.some.inj e)))⟩
theorem gcell2 {W V w1 : World} {g : Nat} (hb : Below W.heap.size W V) (h : V.grownBy w1 (some g)) : (∀ b o, b < W.heap.size → ¬ b = g → w1.cell? ⟨b, o, none⟩ = W.cell? ⟨b, o, none⟩) ∧ (∀ b o, b < W.heap.size → ¬ b = g → w1.frozen? ⟨b, o, none⟩ = W.frozen? ⟨b, o, none⟩) :=
  ⟨fun b o hl hne => ((gcell h).1 b o (Nat.lt_of_lt_of_le hl hb.size) hne).trans (hb.cell (p := ⟨b, o, none⟩) hl), fun b o hl hne => ((gcell h).2 b o (Nat.lt_of_lt_of_le hl hb.size) hne).trans (hb.frozen (p := ⟨b, o, none⟩) hl)⟩
theorem only_set_new {w W : World} {g b i : Nat} {u : Value} (h : w.grownBy W (some g)) (hb : w.heap.size ≤ b) : w.grownBy (W.setCell ⟨b, i, none⟩ u) (some g) :=
  ⟨h.os, h.tape, h.output, by simpa using h.size, fun k hk hne => (heap_setCell_other W ⟨b, i, none⟩ k _ (fun e => by simp at e; omega)).trans (h.block k hk hne)⟩
theorem Row.store {W : World} {B b i : Nat} {u : Value} {a : Option Addr} {xs : List Value} (h : Row W B a xs) (hne : ∀ p, a = some p → ¬ p.block = b) : Row (W.setCell ⟨b, i, none⟩ u) B a xs := by
  intro k x hx
  obtain ⟨c, o, rfl, hc, hcell⟩ := h k x hx
  refine ⟨c, o, rfl, hc, (World.cell?_setCell_other _ _ _ _ fun e => hne _ rfl ?_).trans hcell⟩
  have h1 := congrArg Addr.block e
  simpa using h1.symm
theorem Cur.store {W : World} {g b i : Nat} {u : Value} (h : Cur W g) (hb : g < b) : Cur (W.setCell ⟨b, i, none⟩ u) g := h.upto ((Below.refl _ _).setCell (by simp; omega) _)

theorem beside_at {w : World} {g b : Nat} {t : TypeId} (cs : Array Value) (hb : b = w.heap.size) (hg : g < w.heap.size) : Beside (w.alloc (.cells cs t)) g (some ⟨b, 0, none⟩) cs.toList := by
  subst hb
  exact beside_new cs hg

def vars3 : List ByteArray := [⟨#[120]⟩, ⟨#[121]⟩, ⟨#[116]⟩]
theorem vars3_size : ∀ s ∈ vars3, s.size ≤ 21 := by decide
def VarsEnd (w : World) (e : Ending) (w' : World) : Prop := e = .returned (.slice (some ⟨w.heap.size, 0, none⟩) 3 3) ∧ w.alloc (.cells (strVals vars3).toArray 9) = w' 
theorem drawVars (w : World) : Calls Tryz.prog 85 #[] w (VarsEnd w) := by
  go_enter Tryz.func85, Tryz.ntmps85
  go_wp2
  go_ret
  exact ⟨rfl, rfl⟩

/-- A statement, drawn. -/
def StmtDrawn (g : Nat) (w : World) (e : Ending) (w' : World) : Prop :=
  ∃ (k : Int) (a b : ByteArray), -1 ≤ k ∧ k ≤ 21 ∧ a.size ≤ 21 ∧ b.size ≤ 21 ∧ e = .returned (stV k a b) ∧ Cur w' g ∧ w.grownBy w' (some g)

set_option maxRecDepth 100000 in
set_option maxHeartbeats 1600000 in
theorem drawStmt (g : Nat) (w : World) (hcur : Cur w g) : Calls Tryz.prog 86 #[.pointer (some ⟨g, 0, none⟩)] w (StmtDrawn g w) := by
  have hg0 := hcur.lt
  go_enter Tryz.func86, Tryz.ntmps86
  go_wp2_with fail
  refine (drawBelow g 12 _ (by omega) (by omega) (hcur.alloc _)).mono ?_
  rintro e w1 ⟨x, hx, rfl, hc1, hw1⟩
  obtain ⟨k1, f1⟩ := gcell hw1
  have hs1 : w.heap.size < w1.heap.size := by have h := hw1.size; simp at h; omega
  have hg1 := hc1.lt
  have hG1 : w.grownBy w1 (some g) := only_then (only_alloc (only_same _ _) _) hw1
  have hn1 : ¬ w.heap.size = g := by omega
  have hn2 : ¬ w1.heap.size = g := by omega
  clear hw1
  go_wp2_with fail
  refine (specNamesOf _ _).mono ?_
  rintro e w2 ⟨rfl, rfl⟩
  have hn : namesN (1 + (x : Int)) = 0 ∨ namesN (1 + (x : Int)) = 1 ∨ namesN (1 + (x : Int)) = 2 := by
    rcases kinds (k := 1 + (x : Int)) (by omega) with h | h | h | h | h | h | h | h | h | h | h | h <;> rw [h] <;> decide
  have hk : -1 ≤ 1 + (x : Int) ∧ 1 + (x : Int) ≤ 21 := by omega
  generalize 1 + (x : Int) = k at *
  generalize namesN k = n at *
  have Hn := Lib.hid hn
  have Hk := Lib.hid hk
  clear hn hk hx
  rcases Hn.out with rfl | rfl | rfl
  · clear Hn
    go_wp2
    refine bodyPost_ret (v := stV k ⟨#[]⟩ ⟨#[]⟩) (by simp [results, Tryz.results86, go_sem, k1, hs1, hn1]) rfl ⟨k, ⟨#[]⟩, ⟨#[]⟩, Hk.out.1, Hk.out.2, by decide, by decide, rfl, ?_, ?_⟩
    · repeat (first | with_reducible exact hc1 | with_reducible refine Cur.alloc ?_ _ | with_reducible refine Cur.store ?_ (by omega))
    · repeat (first | with_reducible exact hG1 | with_reducible refine only_alloc ?_ _ | with_reducible refine only_set_new ?_ (by omega))
  · clear Hn
    go_wp2_with fail
    refine (drawVars _).mono ?_
    rintro e _ ⟨rfl, rfl⟩
    go_wp2_with fail
    refine (drawPick g 3 (some (⟨w1.heap.size + 1, 0, none⟩ : Addr)) vars3 _ (by decide) (by decide) ((hc1.alloc _).alloc _) (beside_at (strVals vars3).toArray (by simp) (by first | omega | (simp; omega)))).mono ?_
    rintro e w3 ⟨v3, hv3, rfl, hc3, hw3⟩
    obtain ⟨s3, hm3, rfl⟩ := List.mem_map.1 hv3
    have hz3 := vars3_size s3 hm3
    have hs3 : w1.heap.size < w3.heap.size := by have h := hw3.size; simp at h; omega
    have hs3' : w.heap.size < w1.heap.size + 1 := by omega
    obtain ⟨k3, f3⟩ := gcell2 ((Below.refl _ _).alloc (Nat.le_refl _) _) hw3
    have hG3 : w.grownBy w3 (some g) := only_then (only_alloc (only_alloc hG1 _) _) hw3
    have hg3 := hc3.lt
    have hS3 : w.heap.size < w3.heap.size := by omega
    clear hw3 hv3 hm3
    go_wp2
    refine bodyPost_ret (v := stV k s3 ⟨#[]⟩) (by simp [results, Tryz.results86, go_sem, k1, k3, hs1, hn1, hs3']) rfl ⟨k, s3, (⟨#[]⟩ : ByteArray), Hk.out.1, Hk.out.2, hz3, by decide, rfl, ?_, ?_⟩
    · repeat (first | with_reducible exact hc3 | with_reducible refine Cur.alloc ?_ _ | with_reducible refine Cur.store ?_ (by omega))
    · repeat (first | with_reducible exact hG3 | with_reducible refine only_alloc ?_ _ | with_reducible refine only_set_new ?_ (by omega))
  · clear Hn
    go_wp2_with fail
    refine (drawVars _).mono ?_
    rintro e _ ⟨rfl, rfl⟩
    go_wp2_with fail
    refine (drawPick g 3 (some (⟨w1.heap.size + 1, 0, none⟩ : Addr)) vars3 _ (by decide) (by decide) ((hc1.alloc _).alloc _) (beside_at (strVals vars3).toArray (by simp) (by first | omega | (simp; omega)))).mono ?_
    rintro e w3 ⟨v3, hv3, rfl, hc3, hw3⟩
    obtain ⟨s3, hm3, rfl⟩ := List.mem_map.1 hv3
    have hz3 := vars3_size s3 hm3
    have hs3 : w1.heap.size < w3.heap.size := by have h := hw3.size; simp at h; omega
    have hs3' : w.heap.size < w1.heap.size + 1 := by omega
    obtain ⟨k3, f3⟩ := gcell2 ((Below.refl _ _).alloc (Nat.le_refl _) _) hw3
    have hG3 : w.grownBy w3 (some g) := only_then (only_alloc (only_alloc hG1 _) _) hw3
    have hg3 := hc3.lt
    have hS3 : w.heap.size < w3.heap.size := by omega
    clear hw3 hv3 hm3
    go_wp2_with fail
    refine (drawVars _).mono ?_
    rintro e _ ⟨rfl, rfl⟩
    go_wp2_with fail
    refine (drawPick g 3 (some (⟨w3.heap.size, 0, none⟩ : Addr)) vars3 _ (by decide) (by decide) ((hc3.store (by omega)).alloc _) (beside_at (strVals vars3).toArray (by simp) (by first | omega | (simp; omega)))).mono ?_
    rintro e w4 ⟨v4, hv4, rfl, hc4, hw4⟩
    obtain ⟨s4, hm4, rfl⟩ := List.mem_map.1 hv4
    have hz4 := vars3_size s4 hm4
    have hs4 : w3.heap.size < w4.heap.size := by have h := hw4.size; simp at h; omega
    obtain ⟨k4, f4⟩ := gcell2 ((Below.refl _ _).alloc (Nat.le_refl _) _) hw4
    have hG4 : w.grownBy w4 (some g) := only_then (only_alloc (only_set_new hG3 (by omega)) _) hw4
    have hg4 := hc4.lt
    have hS4 : w.heap.size < w4.heap.size := by omega
    clear hw4 hv4 hm4
    have hS4' : w1.heap.size < w4.heap.size := by omega
    go_wp2
    refine bodyPost_ret (v := stV k s3 s4) (by simp [results, Tryz.results86, go_sem, k1, k3, k4, hs1, hn1, hS3, hs3']) rfl ⟨k, s3, s4, Hk.out.1, Hk.out.2, hz3, hz4, rfl, ?_, ?_⟩
    · repeat (first | with_reducible exact hc4 | with_reducible refine Cur.alloc ?_ _ | with_reducible refine Cur.store ?_ (by omega))
    · repeat (first | with_reducible exact hG4 | with_reducible refine only_alloc ?_ _ | with_reducible refine only_set_new ?_ (by omega))

def bentA : List ByteArray := [⟨#[]⟩, ⟨#[120]⟩, ⟨#[113]⟩, ⟨#[88]⟩]
theorem bentA_size : ∀ s ∈ bentA, s.size ≤ 21 := by decide
def bentB : List ByteArray := [⟨#[]⟩, ⟨#[121]⟩, ⟨#[113]⟩]
theorem bentB_size : ∀ s ∈ bentB, s.size ≤ 21 := by decide
set_option maxRecDepth 100000 in
set_option maxHeartbeats 1600000 in
theorem drawBent (g : Nat) (w : World) (hcur : Cur w g) : Calls Tryz.prog 90 #[.pointer (some ⟨g, 0, none⟩)] w (StmtDrawn g w) := by
  have hg0 := hcur.lt
  go_enter Tryz.func90, Tryz.ntmps90
  go_wp2_with fail
  refine (drawStmt g _ (hcur.alloc _)).mono ?_
  rintro e w1 ⟨k, a, b, hk0, hk1, ha, hb, rfl, hc1, hw1⟩
  obtain ⟨k1, f1⟩ := gcell hw1
  have hs1 : w.heap.size < w1.heap.size := by have h := hw1.size; simp at h; omega
  have hg1 := hc1.lt
  have hG1 : w.grownBy w1 (some g) := only_then (only_alloc (only_same _ _) _) hw1
  have hn1 : ¬ w.heap.size = g := by omega
  have hn2 : ¬ w1.heap.size = g := by omega
  have hs1' : w.heap.size < w1.heap.size + 1 := by omega
  clear hw1
  go_wp2_with fail
  refine (drawBelow g 8 _ (by omega) (by omega) (hc1.alloc _)).mono ?_
  rintro e w2 ⟨x, hx, rfl, hc2, hw2⟩
  obtain ⟨k2, f2⟩ := gcell hw2
  have hs2 : w1.heap.size < w2.heap.size := by have h := hw2.size; simp at h; omega
  have hs2' : w.heap.size < w2.heap.size := by omega
  have hs2'' : w.heap.size < w2.heap.size + 1 := by omega
  have hg2 := hc2.lt
  have hG2 : w.grownBy w2 (some g) := only_then (only_alloc hG1 _) hw2
  clear hw2
  by_cases h0 : x = 0
  · subst h0
    go_wp2_with fail
    refine (drawBelow g 15 _ (by omega) (by omega) hc2).mono ?_
    rintro e w3 ⟨y, hy, rfl, hc3, hw3⟩
    obtain ⟨k3, f3⟩ := gcell hw3
    have hs3 : w1.heap.size < w3.heap.size := Nat.lt_of_lt_of_le hs2 hw3.size
    have hs3' : w.heap.size < w3.heap.size := by omega
    have hG3 : w.grownBy w3 (some g) := only_then hG2 hw3
    clear hw3
    go_wp2
    refine bodyPost_ret (v := stV ((y : Int) - 1) a b) (by simp [results, Tryz.results90, go_sem, k1, k2, k3, hs1, hs1', hs2', hn1]) rfl ⟨((y : Int) - 1), a, b, by omega, by omega, ha, hb, rfl, ?_, ?_⟩
    · repeat (first | with_reducible exact hc3 | with_reducible refine Cur.alloc ?_ _ | with_reducible refine Cur.store ?_ (by omega))
    · repeat (first | with_reducible exact hG3 | with_reducible refine only_alloc ?_ _ | with_reducible refine only_set_new ?_ (by omega))
  · have e0 : ((x : Int) == 0) = false := by simp only [beq_eq_false_iff_ne, ne_eq]; omega
    by_cases h1 : x = 1
    · subst h1
      go_wp2_with fail
      refine (drawPick g 4 (some (⟨w2.heap.size, 0, none⟩ : Addr)) bentA _ (by decide) (by decide) (hc2.alloc _) (beside_at (strVals bentA).toArray (by simp) (by first | omega | (simp; omega)))).mono ?_
      rintro e w3 ⟨v3, hv3, rfl, hc3, hw3⟩
      obtain ⟨s3, hm3, rfl⟩ := List.mem_map.1 hv3
      have hz3 := bentA_size s3 hm3
      have hs3 : w1.heap.size < w3.heap.size := by have h := hw3.size; simp at h; omega
      have hs3' : w.heap.size < w3.heap.size := by omega
      obtain ⟨k3, f3⟩ := gcell2 ((Below.refl _ _).alloc (Nat.le_refl _) _) hw3
      have hG3 : w.grownBy w3 (some g) := only_then (only_alloc hG2 _) hw3
      clear hw3 hv3 hm3
      go_wp2
      refine bodyPost_ret (v := stV k s3 b) (by simp [results, Tryz.results90, go_sem, k1, k2, k3, hs1, hs1', hs2', hn1]) rfl ⟨k, s3, b, hk0, hk1, hz3, hb, rfl, ?_, ?_⟩
      · repeat (first | with_reducible exact hc3 | with_reducible refine Cur.alloc ?_ _ | with_reducible refine Cur.store ?_ (by omega))
      · repeat (first | with_reducible exact hG3 | with_reducible refine only_alloc ?_ _ | with_reducible refine only_set_new ?_ (by omega))
    · have e1 : ((x : Int) == 1) = false := by simp only [beq_eq_false_iff_ne, ne_eq]; omega
      by_cases h2 : x = 2
      · subst h2
        go_wp2_with fail
        refine (drawPick g 3 (some (⟨w2.heap.size, 0, none⟩ : Addr)) bentB _ (by decide) (by decide) (hc2.alloc _) (beside_at (strVals bentB).toArray (by simp) (by first | omega | (simp; omega)))).mono ?_
        rintro e w3 ⟨v3, hv3, rfl, hc3, hw3⟩
        obtain ⟨s3, hm3, rfl⟩ := List.mem_map.1 hv3
        have hz3 := bentB_size s3 hm3
        have hs3 : w1.heap.size < w3.heap.size := by have h := hw3.size; simp at h; omega
        have hs3' : w.heap.size < w3.heap.size := by omega
        obtain ⟨k3, f3⟩ := gcell2 ((Below.refl _ _).alloc (Nat.le_refl _) _) hw3
        have hG3 : w.grownBy w3 (some g) := only_then (only_alloc hG2 _) hw3
        clear hw3 hv3 hm3
        go_wp2
        refine bodyPost_ret (v := stV k a s3) (by simp [results, Tryz.results90, go_sem, k1, k2, k3, hs1, hs1', hs2', hn1]) rfl ⟨k, a, s3, hk0, hk1, ha, hz3, rfl, ?_, ?_⟩
        · repeat (first | with_reducible exact hc3 | with_reducible refine Cur.alloc ?_ _ | with_reducible refine Cur.store ?_ (by omega))
        · repeat (first | with_reducible exact hG3 | with_reducible refine only_alloc ?_ _ | with_reducible refine only_set_new ?_ (by omega))
      · have e2 : ((x : Int) == 2) = false := by simp only [beq_eq_false_iff_ne, ne_eq]; omega
        go_wp2
        refine bodyPost_ret (v := stV k a b) (by simp [results, Tryz.results90, go_sem, k1, k2, hs1, hs1', hn1]) rfl ⟨k, a, b, hk0, hk1, ha, hb, rfl, ?_, ?_⟩
        · repeat (first | with_reducible exact hc2 | with_reducible refine Cur.alloc ?_ _ | with_reducible refine Cur.store ?_ (by omega))
        · repeat (first | with_reducible exact hG2 | with_reducible refine only_alloc ?_ _ | with_reducible refine only_set_new ?_ (by omega))

/-- A statement, drawn from a law's bytes. -/
def SomeStmt (w : World) (e : Ending) (w' : World) : Prop :=
  ∃ (k : Int) (a b : ByteArray), -1 ≤ k ∧ k ≤ 21 ∧ a.size ≤ 21 ∧ b.size ≤ 21 ∧ e = .returned (stV k a b) ∧ Below w.heap.size w w'
/-- A kind, drawn. -/
def SomeKind (w : World) (e : Ending) (w' : World) : Prop := ∃ k : Int, -1 ≤ k ∧ k ≤ 21 ∧ e = .returned (.int .i64 k) ∧ Below w.heap.size w w' 
/-- Variables and a statement, drawn. -/
def SomeVarsStmt (w : World) (e : Ending) (w' : World) : Prop :=
  ∃ (a : Option Addr) (cap : Nat) (ss : List ByteArray) (k : Int) (sa sb : ByteArray), ss.length ≤ 6 ∧ (∀ s ∈ ss, s.size ≤ 21) ∧ -1 ≤ k ∧ k ≤ 21 ∧ sa.size ≤ 21 ∧ sb.size ≤ 21 ∧
    e = .returned (.tuple #[.slice a ss.length cap, stV k sa sb]) ∧ Row w' w'.heap.size a (strVals ss) ∧ Below w.heap.size w w'
end Go.Proofs.YtpmmjaceehlpiaaGreatDoor
