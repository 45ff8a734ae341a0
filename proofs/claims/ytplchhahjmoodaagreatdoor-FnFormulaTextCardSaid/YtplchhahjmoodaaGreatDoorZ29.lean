/-
  Several texts of one proof in one file, in the order in which they build.
-/
import Derived.Test.YtplchhahjmoodaaGreatDoorZ16
import Derived.Test.YtplchhahjmoodaaGreatDoorZ28
/-
  Reading a formula's text as the model does, on lists of bytes; a text that is right is read back. Nothing here knows of the program.
-/
namespace Go.Proofs.YtplchhahjmoodaaGreatDoor
open Go Go.RowKit

def letterL (n : Int) : List UInt8 := if n = 0 then [117] else if n = 1 then [118] else if n = 2 then [119] else [122]
def nameL (ss : List ByteArray) (k : Int) : List UInt8 := (nameAt ss k).data.toList
def partL (ts : List (List UInt8)) (i : Nat) : List UInt8 := ts.getD i []
def nodeL (ss : List ByteArray) (kd k u v : Int) (ts : List (List UInt8)) : List UInt8 :=
  if kd = 1 then [116, 114, 117, 101]
  else if kd = 2 then [111, 110, 32] ++ (nameL ss k ++ (58 :: letterL u))
  else if kd = 3 then [102, 114, 111, 109, 32] ++ (nameL ss k ++ (58 :: letterL u))
  else if kd = 4 then [115, 104, 97, 114, 101, 100, 58] ++ letterL u
  else if kd = 5 then [110, 101, 120, 116, 58] ++ (letterL u ++ letterL v)
  else if kd = 6 then [115, 97, 109, 101, 58] ++ (letterL u ++ letterL v)
  else if kd = 7 then [112, 97, 116, 104, 58] ++ (letterL u ++ letterL v)
  else if kd = 8 then [33] ++ partL ts 0
  else if kd = 9 then [40] ++ (partL ts 0 ++ (38 :: (partL ts 1 ++ [41])))
  else if kd = 10 then [40] ++ (partL ts 0 ++ (124 :: (partL ts 1 ++ [41])))
  else if kd = 11 then [115, 111, 109, 101, 32] ++ (letterL u ++ (46 :: partL ts 0))
  else [97, 108, 108, 32] ++ (letterL u ++ (46 :: partL ts 0))
mutual
def Fm.textL (ss : List ByteArray) : Fm → List UInt8
  | .mk kd k u v pp => nodeL ss kd k u v (Fm.textsL ss pp)
def Fm.textsL (ss : List ByteArray) : List Fm → List (List UInt8)
  | [] => []
  | t :: ts => t.textL ss :: Fm.textsL ss ts
end
theorem Fm.textsL_map (ss : List ByteArray) : ∀ ts : List Fm, Fm.textsL ss ts = ts.map (Fm.textL ss)
  | [] => rfl
  | t :: ts => by rw [Fm.textsL, Fm.textsL_map ss ts]; rfl
theorem Fm.textL_eq (ss : List ByteArray) (t : Fm) : t.textL ss = nodeL ss t.kd t.k t.u t.v (t.args.map (Fm.textL ss)) := by
  cases t
  rw [Fm.textL, Fm.textsL_map]
  rfl
theorem letter_list (n : Int) : (letterT n).data.toList = letterL n := by
  unfold letterT letterL
  by_cases h0 : n = 0
  · rw [if_pos h0, if_pos h0]
  rw [if_neg h0, if_neg h0]
  by_cases h1 : n = 1
  · rw [if_pos h1, if_pos h1]
  rw [if_neg h1, if_neg h1]
  by_cases h2 : n = 2
  · rw [if_pos h2, if_pos h2]
  rw [if_neg h2, if_neg h2]
theorem part_list (ts : List ByteArray) (i : Nat) : (partT ts i).data.toList = partL (ts.map (·.data.toList)) i := by
  unfold partT partL
  rw [List.getD_eq_getElem?_getD, List.getD_eq_getElem?_getD, List.getElem?_map]
  cases ts[i]? <;> rfl
theorem app_list (a b : ByteArray) : (a ++ b).data.toList = a.data.toList ++ b.data.toList := by simp
theorem node_list (ss : List ByteArray) (kd k u v : Int) (ts : List ByteArray) : (nodeT ss kd k u v ts).data.toList = nodeL ss kd k u v (ts.map (·.data.toList)) := by
  unfold nodeT nodeL
  by_cases h1 : kd = 1
  · rw [if_pos h1, if_pos h1]
  rw [if_neg h1, if_neg h1]
  by_cases h2 : kd = 2
  · rw [if_pos h2, if_pos h2]
    simp only [app_list, letter_list, nameL, List.append_assoc, List.cons_append, List.nil_append]
  rw [if_neg h2, if_neg h2]
  by_cases h3 : kd = 3
  · rw [if_pos h3, if_pos h3]
    simp only [app_list, letter_list, nameL, List.append_assoc, List.cons_append, List.nil_append]
  rw [if_neg h3, if_neg h3]
  by_cases h4 : kd = 4
  · rw [if_pos h4, if_pos h4]
    simp only [app_list, letter_list, List.cons_append, List.nil_append]
  rw [if_neg h4, if_neg h4]
  by_cases h5 : kd = 5
  · rw [if_pos h5, if_pos h5]
    simp only [app_list, letter_list, List.cons_append, List.nil_append]
  rw [if_neg h5, if_neg h5]
  by_cases h6 : kd = 6
  · rw [if_pos h6, if_pos h6]
    simp only [app_list, letter_list, List.cons_append, List.nil_append]
  rw [if_neg h6, if_neg h6]
  by_cases h7 : kd = 7
  · rw [if_pos h7, if_pos h7]
    simp only [app_list, letter_list, List.cons_append, List.nil_append]
  rw [if_neg h7, if_neg h7]
  by_cases h8 : kd = 8
  · rw [if_pos h8, if_pos h8]
    simp only [app_list, part_list, List.cons_append, List.nil_append]
  rw [if_neg h8, if_neg h8]
  by_cases h9 : kd = 9
  · rw [if_pos h9, if_pos h9]
    simp only [app_list, part_list, List.append_assoc, List.cons_append, List.nil_append]
  rw [if_neg h9, if_neg h9]
  by_cases h10 : kd = 10
  · rw [if_pos h10, if_pos h10]
    simp only [app_list, part_list, List.append_assoc, List.cons_append, List.nil_append]
  rw [if_neg h10, if_neg h10]
  by_cases h11 : kd = 11
  · rw [if_pos h11, if_pos h11]
    simp only [app_list, letter_list, part_list, List.append_assoc, List.cons_append, List.nil_append]
  rw [if_neg h11, if_neg h11]
  simp only [app_list, letter_list, part_list, List.append_assoc, List.cons_append, List.nil_append]
theorem text_list (ss : List ByteArray) : ∀ t : Fm, (t.textT ss).data.toList = t.textL ss := by
  apply Fm.ind
  intro t ih
  rw [Fm.textT_eq, Fm.textL_eq, node_list, List.map_map]
  congr 1
  exact List.map_congr_left fun x hx => ih x hx
theorem text_inj {a b : ByteArray} (h : a.data.toList = b.data.toList) : a = b := by
  ext1
  exact Array.toList_inj.1 h
end Go.Proofs.YtplchhahjmoodaaGreatDoor
/-
  The model's reading of a formula, as a function on what is left of the text and on whether something was wrong. (Printed by wip/tools/gen_read_model.py.)
-/
namespace Go.Proofs.YtplchhahjmoodaaGreatDoor
open Go Go.RowKit

abbrev RdS := List UInt8 × Bool
def takeP (w : List UInt8) (r : RdS) : Bool × RdS := if r.2 = false ∧ w.isPrefixOf r.1 = true then (true, (r.1.drop w.length, false)) else (false, r)
def mustP (w : List UInt8) (r : RdS) : RdS := ((takeP w r).2.1, (takeP w r).2.2 || !(takeP w r).1)
def varP (r : RdS) : Int × RdS :=
  if (takeP [117] r).1 = true then (0, (takeP [117] r).2)
  else if (takeP [118] r).1 = true then (1, (takeP [118] r).2)
  else if (takeP [119] r).1 = true then (2, (takeP [119] r).2)
  else if (takeP [122] r).1 = true then (3, (takeP [122] r).2)
  else (0, (r.1, true))
def isLow (c : UInt8) : Bool := decide (97 ≤ c.toNat) && decide (c.toNat ≤ 122)
def nameP (ss : List ByteArray) (r : RdS) : Int × RdS :=
  (place ss ⟨(r.1.takeWhile isLow).toArray⟩, mustP [58] (r.1.dropWhile isLow, r.2 || decide (place ss ⟨(r.1.takeWhile isLow).toArray⟩ < 0)))
def zeroF : Fm := .mk 0 0 0 0 []
def namedP (ss : List ByteArray) (kd : Int) (r : RdS) : Fm × RdS := (.mk kd (nameP ss r).1 (varP (nameP ss r).2).1 0 [], (varP (nameP ss r).2).2)
def pairP (kd : Int) (r : RdS) : Fm × RdS := (.mk kd 0 (varP r).1 (varP (varP r).2).1 [], (varP (varP r).2).2)
def bindP (kd : Int) (f : RdS → Fm × RdS) (r : RdS) : Fm × RdS := (.mk kd 0 (varP r).1 0 [(f (mustP [46] (varP r).2)).1], (f (mustP [46] (varP r).2)).2)
def twoP (f : RdS → Fm × RdS) (r : RdS) : Fm × RdS :=
  let a := f r
  let kd : Int := if (takeP [38] a.2).1 = true then 9 else 10
  let r2 : RdS := if (takeP [38] a.2).1 = true then (takeP [38] a.2).2 else mustP [124] a.2
  if r2.2 = true then (.mk kd 0 0 0 [], r2) else (.mk kd 0 0 0 [a.1, (f r2).1], mustP [41] (f r2).2)
def allP (ss : List ByteArray) : Nat → RdS → Fm × RdS
  | 0, r => (zeroF, (r.1, true))
  | n + 1, r =>
    if r.2 = true then (zeroF, r)
    else if (takeP [116, 114, 117, 101] r).1 = true then (.mk 1 0 0 0 [], (takeP [116, 114, 117, 101] r).2)
    else if (takeP [111, 110, 32] r).1 = true then namedP ss 2 (takeP [111, 110, 32] r).2
    else if (takeP [102, 114, 111, 109, 32] r).1 = true then namedP ss 3 (takeP [102, 114, 111, 109, 32] r).2
    else if (takeP [115, 104, 97, 114, 101, 100, 58] r).1 = true then (.mk 4 0 (varP (takeP [115, 104, 97, 114, 101, 100, 58] r).2).1 0 [], (varP (takeP [115, 104, 97, 114, 101, 100, 58] r).2).2)
    else if (takeP [110, 101, 120, 116, 58] r).1 = true then pairP 5 (takeP [110, 101, 120, 116, 58] r).2
    else if (takeP [115, 97, 109, 101, 58] r).1 = true then pairP 6 (takeP [115, 97, 109, 101, 58] r).2
    else if (takeP [112, 97, 116, 104, 58] r).1 = true then pairP 7 (takeP [112, 97, 116, 104, 58] r).2
    else if (takeP [33] r).1 = true then (.mk 8 0 0 0 [(allP ss n (takeP [33] r).2).1], (allP ss n (takeP [33] r).2).2)
    else if (takeP [115, 111, 109, 101, 32] r).1 = true then bindP 11 (allP ss n) (takeP [115, 111, 109, 101, 32] r).2
    else if (takeP [97, 108, 108, 32] r).1 = true then bindP 12 (allP ss n) (takeP [97, 108, 108, 32] r).2
    else if (mustP [40] r).2 = true then (zeroF, mustP [40] r)
    else twoP (allP ss n) (mustP [40] r)
theorem take_yes (w l : List UInt8) : takeP w (w ++ l, false) = (true, (l, false)) := by
  have h : w.isPrefixOf (w ++ l) = true := by simp
  unfold takeP
  rw [if_pos ⟨rfl, h⟩]
  simp
theorem take_no {w l : List UInt8} (h : w.isPrefixOf l = false) : takeP w (l, false) = (false, (l, false)) := by
  unfold takeP
  rw [if_neg (by simp [h])]
theorem must_yes (w l : List UInt8) : mustP w (w ++ l, false) = (l, false) := by
  unfold mustP
  rw [take_yes]
  rfl
theorem var_yes {u : Int} (h : 0 ≤ u ∧ u ≤ 3) (l : List UInt8) : varP (letterL u ++ l, false) = (u, (l, false)) := by
  have h4 : u = 0 ∨ u = 1 ∨ u = 2 ∨ u = 3 := by omega
  rcases h4 with rfl | rfl | rfl | rfl
  · rfl
  · rfl
  · rfl
  · rfl
theorem low_of {c : UInt8} (h : 97 ≤ c.toNat ∧ c.toNat ≤ 122) : isLow c = true := by
  unfold isLow
  rw [decide_eq_true h.1, decide_eq_true h.2]
  rfl
theorem name_low {s : ByteArray} (h : goodName s = true) : ∀ c ∈ s.data.toList, isLow c = true := by
  intro c hc
  have h1 := (of_decide_eq_true h).1
  obtain ⟨i, hi, rfl⟩ := List.mem_iff_getElem.1 hc
  have h2 := h1 i (by simpa using hi)
  exact low_of h2
theorem while_all {p : UInt8 → Bool} : ∀ (a : List UInt8) (c : UInt8) (l : List UInt8), (∀ x ∈ a, p x = true) → p c = false → (a ++ c :: l).takeWhile p = a ∧ (a ++ c :: l).dropWhile p = c :: l
  | [], c, l, _, hc => by simp [hc]
  | x :: a, c, l, h, hc => by
    have hx := h x (by simp)
    have ih := while_all a c l (fun y hy => h y (by simp [hy])) hc
    simp [hx, ih.1, ih.2]
theorem name_yes {ss : List ByteArray} (hg : goodVars ss = true) {k : Int} (hk : 0 ≤ k ∧ k < ss.length) (l : List UInt8) : nameP ss (nameL ss k ++ 58 :: l, false) = (k, (l, false)) := by
  obtain ⟨kn, rfl⟩ : ∃ kn : Nat, k = (kn : Int) := ⟨k.toNat, by omega⟩
  have hkl : kn < ss.length := by omega
  have hn : nameAt ss (kn : Int) = ss[kn] := by simp [nameAt, hkl]
  have hv := vars_at hg hkl
  have hw := while_all (p := isLow) (nameL ss (kn : Int)) 58 l (by unfold nameL; rw [hn]; exact name_low hv.1) rfl
  unfold nameP
  simp only [hw.1, hw.2]
  have hp : place ss ⟨(nameL ss (kn : Int)).toArray⟩ = (kn : Int) := by
    have : (⟨(nameL ss (kn : Int)).toArray⟩ : ByteArray) = ss[kn] := by
      unfold nameL
      rw [hn]
    rw [this]
    exact hv.2
  rw [hp]
  have hd : decide ((kn : Int) < 0) = false := decide_eq_false (by omega)
  rw [hd]
  have := must_yes [58] l
  simp only [List.cons_append, List.nil_append] at this
  simp only [Bool.or_self]
  rw [this]
theorem fm_kind {n : Int} {t : Fm} (h : t.formB n = true) : (usesF t.kd < 1 → t.u = 0) ∧ (usesF t.kd < 2 → t.v = 0) ∧ (¬ (t.kd = 2 ∨ t.kd = 3) → t.k = 0) ∧ (t.kd = 2 ∨ t.kd = 3 → 0 ≤ t.k ∧ t.k < n) ∧ (0 ≤ t.u ∧ t.u ≤ 3) ∧ (0 ≤ t.v ∧ t.v ≤ 3) ∧ (t.args.length : Int) = arityF t.kd := by
  rw [Fm.formB_eq, Bool.and_eq_true] at h
  exact (nodeB_iff _ _ _ _ _ _).1 h.1
theorem fm_parts {n : Int} {t : Fm} (h : t.formB n = true) : ∀ y ∈ t.args, y.formB n = true := by
  rw [Fm.formB_eq, Bool.and_eq_true, List.all_eq_true] at h
  exact h.2
theorem depth_part {t y : Fm} (h : y ∈ t.args) : y.depth + 1 ≤ t.depth := by
  have := Fm.depth_eq t
  have h2 : ∀ ts : List Fm, y ∈ ts → y.depth ≤ Fm.depths ts := by
    intro ts
    induction ts with
    | nil => intro h; cases h
    | cons a r ih =>
      intro h
      rw [show Fm.depths (a :: r) = max a.depth (Fm.depths r) from rfl]
      rcases List.mem_cons.1 h with rfl | h
      · omega
      · have := ih h
        omega
  have := h2 _ h
  omega
set_option maxRecDepth 10000 in
/-- A text that is right is read back. -/
theorem all_text {ss : List ByteArray} (hg : goodVars ss = true) : ∀ t : Fm, t.formB ss.length = true → ∀ (n : Nat) (tail : List UInt8), t.depth ≤ n → allP ss n (t.textL ss ++ tail, false) = (t, (tail, false)) := by
  apply Fm.ind
  intro t ih hf n tail hn
  obtain ⟨hu1, hv1, hk0, hk1, hu, hv, har⟩ := fm_kind hf
  have hp := fm_parts hf
  have hd1 := Fm.depth_eq t
  obtain ⟨m, rfl⟩ : ∃ m, n = m + 1 := ⟨n - 1, by omega⟩
  have IH := fun y (hy : y ∈ t.args) tail => ih y hy (hp y hy) m tail (by have := depth_part hy; omega)
  have hkinds := kind_range har
  rw [Fm.textL_eq]
  obtain ⟨kd, k, u, v, args⟩ := t
  simp only [Fm.kd, Fm.k, Fm.u, Fm.v, Fm.args] at *
  clear ih hp hd1 hn hf
  rcases hkinds with rfl | rfl | rfl | rfl | rfl | rfl | rfl | rfl | rfl | rfl | rfl | rfl
  · have hn : args.length = 0 := by
      have : arityF 1 = 0 := rfl
      omega
    have ha : args = [] := List.eq_nil_of_length_eq_zero hn
    subst ha
    have hkz : k = 0 := hk0 (by omega)
    subst hkz
    have huz : u = 0 := hu1 (by decide)
    subst huz
    have hvz : v = 0 := hv1 (by decide)
    subst hvz
    have hx : nodeL ss 1 0 0 0 (List.map (Fm.textL ss) []) ++ tail = [116, 114, 117, 101] ++ (tail) := by
      simp only [nodeL, Int.reduceEq, if_true, if_false, partL, List.map_nil, List.cons_append, List.nil_append]
    rw [hx]
    unfold allP
    rw [if_neg (by simp)]
    rw [take_yes, if_pos rfl]
  · have hn : args.length = 0 := by
      have : arityF 2 = 0 := rfl
      omega
    have ha : args = [] := List.eq_nil_of_length_eq_zero hn
    subst ha
    have hvz : v = 0 := hv1 (by decide)
    subst hvz
    have hx : nodeL ss 2 k u 0 (List.map (Fm.textL ss) []) ++ tail = [111, 110, 32] ++ (nameL ss k ++ (58 :: (letterL u ++ tail))) := by
      simp only [nodeL, Int.reduceEq, if_true, if_false, partL, List.map_nil, List.append_assoc, List.cons_append, List.nil_append]
    rw [hx]
    unfold allP
    rw [if_neg (by simp)]
    rw [take_no (w := [116, 114, 117, 101]) (l := [111, 110, 32] ++ (nameL ss k ++ (58 :: (letterL u ++ tail)))) rfl, if_neg (by simp)]
    rw [take_yes, if_pos rfl]
    unfold namedP
    rw [name_yes hg (hk1 (by omega)), var_yes hu]
  · have hn : args.length = 0 := by
      have : arityF 3 = 0 := rfl
      omega
    have ha : args = [] := List.eq_nil_of_length_eq_zero hn
    subst ha
    have hvz : v = 0 := hv1 (by decide)
    subst hvz
    have hx : nodeL ss 3 k u 0 (List.map (Fm.textL ss) []) ++ tail = [102, 114, 111, 109, 32] ++ (nameL ss k ++ (58 :: (letterL u ++ tail))) := by
      simp only [nodeL, Int.reduceEq, if_true, if_false, partL, List.map_nil, List.append_assoc, List.cons_append, List.nil_append]
    rw [hx]
    unfold allP
    rw [if_neg (by simp)]
    rw [take_no (w := [116, 114, 117, 101]) (l := [102, 114, 111, 109, 32] ++ (nameL ss k ++ (58 :: (letterL u ++ tail)))) rfl, if_neg (by simp)]
    rw [take_no (w := [111, 110, 32]) (l := [102, 114, 111, 109, 32] ++ (nameL ss k ++ (58 :: (letterL u ++ tail)))) rfl, if_neg (by simp)]
    rw [take_yes, if_pos rfl]
    unfold namedP
    rw [name_yes hg (hk1 (by omega)), var_yes hu]
  · have hn : args.length = 0 := by
      have : arityF 4 = 0 := rfl
      omega
    have ha : args = [] := List.eq_nil_of_length_eq_zero hn
    subst ha
    have hkz : k = 0 := hk0 (by omega)
    subst hkz
    have hvz : v = 0 := hv1 (by decide)
    subst hvz
    have hx : nodeL ss 4 0 u 0 (List.map (Fm.textL ss) []) ++ tail = [115, 104, 97, 114, 101, 100, 58] ++ (letterL u ++ tail) := by
      simp only [nodeL, Int.reduceEq, if_true, if_false, partL, List.map_nil, List.cons_append, List.nil_append]
    rw [hx]
    unfold allP
    rw [if_neg (by simp)]
    rw [take_no (w := [116, 114, 117, 101]) (l := [115, 104, 97, 114, 101, 100, 58] ++ (letterL u ++ tail)) rfl, if_neg (by simp)]
    rw [take_no (w := [111, 110, 32]) (l := [115, 104, 97, 114, 101, 100, 58] ++ (letterL u ++ tail)) rfl, if_neg (by simp)]
    rw [take_no (w := [102, 114, 111, 109, 32]) (l := [115, 104, 97, 114, 101, 100, 58] ++ (letterL u ++ tail)) rfl, if_neg (by simp)]
    rw [take_yes, if_pos rfl]
    rw [var_yes hu]
  · have hn : args.length = 0 := by
      have : arityF 5 = 0 := rfl
      omega
    have ha : args = [] := List.eq_nil_of_length_eq_zero hn
    subst ha
    have hkz : k = 0 := hk0 (by omega)
    subst hkz
    have hx : nodeL ss 5 0 u v (List.map (Fm.textL ss) []) ++ tail = [110, 101, 120, 116, 58] ++ (letterL u ++ (letterL v ++ tail)) := by
      simp only [nodeL, Int.reduceEq, if_true, if_false, partL, List.map_nil, List.append_assoc, List.cons_append, List.nil_append]
    rw [hx]
    unfold allP
    rw [if_neg (by simp)]
    rw [take_no (w := [116, 114, 117, 101]) (l := [110, 101, 120, 116, 58] ++ (letterL u ++ (letterL v ++ tail))) rfl, if_neg (by simp)]
    rw [take_no (w := [111, 110, 32]) (l := [110, 101, 120, 116, 58] ++ (letterL u ++ (letterL v ++ tail))) rfl, if_neg (by simp)]
    rw [take_no (w := [102, 114, 111, 109, 32]) (l := [110, 101, 120, 116, 58] ++ (letterL u ++ (letterL v ++ tail))) rfl, if_neg (by simp)]
    rw [take_no (w := [115, 104, 97, 114, 101, 100, 58]) (l := [110, 101, 120, 116, 58] ++ (letterL u ++ (letterL v ++ tail))) rfl, if_neg (by simp)]
    rw [take_yes, if_pos rfl]
    unfold pairP
    rw [var_yes hu, var_yes hv]
  · have hn : args.length = 0 := by
      have : arityF 6 = 0 := rfl
      omega
    have ha : args = [] := List.eq_nil_of_length_eq_zero hn
    subst ha
    have hkz : k = 0 := hk0 (by omega)
    subst hkz
    have hx : nodeL ss 6 0 u v (List.map (Fm.textL ss) []) ++ tail = [115, 97, 109, 101, 58] ++ (letterL u ++ (letterL v ++ tail)) := by
      simp only [nodeL, Int.reduceEq, if_true, if_false, partL, List.map_nil, List.append_assoc, List.cons_append, List.nil_append]
    rw [hx]
    unfold allP
    rw [if_neg (by simp)]
    rw [take_no (w := [116, 114, 117, 101]) (l := [115, 97, 109, 101, 58] ++ (letterL u ++ (letterL v ++ tail))) rfl, if_neg (by simp)]
    rw [take_no (w := [111, 110, 32]) (l := [115, 97, 109, 101, 58] ++ (letterL u ++ (letterL v ++ tail))) rfl, if_neg (by simp)]
    rw [take_no (w := [102, 114, 111, 109, 32]) (l := [115, 97, 109, 101, 58] ++ (letterL u ++ (letterL v ++ tail))) rfl, if_neg (by simp)]
    rw [take_no (w := [115, 104, 97, 114, 101, 100, 58]) (l := [115, 97, 109, 101, 58] ++ (letterL u ++ (letterL v ++ tail))) rfl, if_neg (by simp)]
    rw [take_no (w := [110, 101, 120, 116, 58]) (l := [115, 97, 109, 101, 58] ++ (letterL u ++ (letterL v ++ tail))) rfl, if_neg (by simp)]
    rw [take_yes, if_pos rfl]
    unfold pairP
    rw [var_yes hu, var_yes hv]
  · have hn : args.length = 0 := by
      have : arityF 7 = 0 := rfl
      omega
    have ha : args = [] := List.eq_nil_of_length_eq_zero hn
    subst ha
    have hkz : k = 0 := hk0 (by omega)
    subst hkz
    have hx : nodeL ss 7 0 u v (List.map (Fm.textL ss) []) ++ tail = [112, 97, 116, 104, 58] ++ (letterL u ++ (letterL v ++ tail)) := by
      simp only [nodeL, Int.reduceEq, if_true, if_false, partL, List.map_nil, List.append_assoc, List.cons_append, List.nil_append]
    rw [hx]
    unfold allP
    rw [if_neg (by simp)]
    rw [take_no (w := [116, 114, 117, 101]) (l := [112, 97, 116, 104, 58] ++ (letterL u ++ (letterL v ++ tail))) rfl, if_neg (by simp)]
    rw [take_no (w := [111, 110, 32]) (l := [112, 97, 116, 104, 58] ++ (letterL u ++ (letterL v ++ tail))) rfl, if_neg (by simp)]
    rw [take_no (w := [102, 114, 111, 109, 32]) (l := [112, 97, 116, 104, 58] ++ (letterL u ++ (letterL v ++ tail))) rfl, if_neg (by simp)]
    rw [take_no (w := [115, 104, 97, 114, 101, 100, 58]) (l := [112, 97, 116, 104, 58] ++ (letterL u ++ (letterL v ++ tail))) rfl, if_neg (by simp)]
    rw [take_no (w := [110, 101, 120, 116, 58]) (l := [112, 97, 116, 104, 58] ++ (letterL u ++ (letterL v ++ tail))) rfl, if_neg (by simp)]
    rw [take_no (w := [115, 97, 109, 101, 58]) (l := [112, 97, 116, 104, 58] ++ (letterL u ++ (letterL v ++ tail))) rfl, if_neg (by simp)]
    rw [take_yes, if_pos rfl]
    unfold pairP
    rw [var_yes hu, var_yes hv]
  · have hn : args.length = 1 := by
      have : arityF 8 = 1 := rfl
      omega
    obtain ⟨p, rfl⟩ : ∃ p, args = [p] := by
      match args, hn with
      | [p], _ => exact ⟨p, rfl⟩
    have IP := IH p (by simp)
    have hkz : k = 0 := hk0 (by omega)
    subst hkz
    have huz : u = 0 := hu1 (by decide)
    subst huz
    have hvz : v = 0 := hv1 (by decide)
    subst hvz
    have hx : nodeL ss 8 0 0 0 (List.map (Fm.textL ss) [p]) ++ tail = [33] ++ (p.textL ss ++ tail) := by
      simp only [nodeL, Int.reduceEq, if_true, if_false, partL, List.map_cons, List.map_nil, List.getD_cons_zero, List.getD_cons_succ, List.cons_append, List.nil_append]
    rw [hx]
    unfold allP
    rw [if_neg (by simp)]
    rw [take_no (w := [116, 114, 117, 101]) (l := [33] ++ (p.textL ss ++ tail)) rfl, if_neg (by simp)]
    rw [take_no (w := [111, 110, 32]) (l := [33] ++ (p.textL ss ++ tail)) rfl, if_neg (by simp)]
    rw [take_no (w := [102, 114, 111, 109, 32]) (l := [33] ++ (p.textL ss ++ tail)) rfl, if_neg (by simp)]
    rw [take_no (w := [115, 104, 97, 114, 101, 100, 58]) (l := [33] ++ (p.textL ss ++ tail)) rfl, if_neg (by simp)]
    rw [take_no (w := [110, 101, 120, 116, 58]) (l := [33] ++ (p.textL ss ++ tail)) rfl, if_neg (by simp)]
    rw [take_no (w := [115, 97, 109, 101, 58]) (l := [33] ++ (p.textL ss ++ tail)) rfl, if_neg (by simp)]
    rw [take_no (w := [112, 97, 116, 104, 58]) (l := [33] ++ (p.textL ss ++ tail)) rfl, if_neg (by simp)]
    rw [take_yes, if_pos rfl]
    rw [IP]
  · have hn : args.length = 2 := by
      have : arityF 9 = 2 := rfl
      omega
    obtain ⟨p, q, rfl⟩ : ∃ p q, args = [p, q] := by
      match args, hn with
      | [p, q], _ => exact ⟨p, q, rfl⟩
    have IP := IH p (by simp)
    have IQ := IH q (by simp)
    have hkz : k = 0 := hk0 (by omega)
    subst hkz
    have huz : u = 0 := hu1 (by decide)
    subst huz
    have hvz : v = 0 := hv1 (by decide)
    subst hvz
    have hx : nodeL ss 9 0 0 0 (List.map (Fm.textL ss) [p, q]) ++ tail = [40] ++ (p.textL ss ++ (38 :: (q.textL ss ++ (41 :: tail)))) := by
      simp only [nodeL, Int.reduceEq, if_true, if_false, partL, List.map_cons, List.map_nil, List.getD_cons_zero, List.getD_cons_succ, List.append_assoc, List.cons_append, List.nil_append]
    rw [hx]
    unfold allP
    rw [if_neg (by simp)]
    rw [take_no (w := [116, 114, 117, 101]) (l := [40] ++ (p.textL ss ++ (38 :: (q.textL ss ++ (41 :: tail))))) rfl, if_neg (by simp)]
    rw [take_no (w := [111, 110, 32]) (l := [40] ++ (p.textL ss ++ (38 :: (q.textL ss ++ (41 :: tail))))) rfl, if_neg (by simp)]
    rw [take_no (w := [102, 114, 111, 109, 32]) (l := [40] ++ (p.textL ss ++ (38 :: (q.textL ss ++ (41 :: tail))))) rfl, if_neg (by simp)]
    rw [take_no (w := [115, 104, 97, 114, 101, 100, 58]) (l := [40] ++ (p.textL ss ++ (38 :: (q.textL ss ++ (41 :: tail))))) rfl, if_neg (by simp)]
    rw [take_no (w := [110, 101, 120, 116, 58]) (l := [40] ++ (p.textL ss ++ (38 :: (q.textL ss ++ (41 :: tail))))) rfl, if_neg (by simp)]
    rw [take_no (w := [115, 97, 109, 101, 58]) (l := [40] ++ (p.textL ss ++ (38 :: (q.textL ss ++ (41 :: tail))))) rfl, if_neg (by simp)]
    rw [take_no (w := [112, 97, 116, 104, 58]) (l := [40] ++ (p.textL ss ++ (38 :: (q.textL ss ++ (41 :: tail))))) rfl, if_neg (by simp)]
    rw [take_no (w := [33]) (l := [40] ++ (p.textL ss ++ (38 :: (q.textL ss ++ (41 :: tail))))) rfl, if_neg (by simp)]
    rw [take_no (w := [115, 111, 109, 101, 32]) (l := [40] ++ (p.textL ss ++ (38 :: (q.textL ss ++ (41 :: tail))))) rfl, if_neg (by simp)]
    rw [take_no (w := [97, 108, 108, 32]) (l := [40] ++ (p.textL ss ++ (38 :: (q.textL ss ++ (41 :: tail))))) rfl, if_neg (by simp)]
    rw [must_yes, if_neg (by simp)]
    unfold twoP
    simp only [IP]
    have h1 := take_yes [38] (q.textL ss ++ (41 :: tail))
    simp only [List.cons_append, List.nil_append] at h1
    rw [h1]
    simp only [if_true]
    rw [if_neg (by simp), IQ]
    have h2 := must_yes [41] tail
    simp only [List.cons_append, List.nil_append] at h2
    rw [h2]
  · have hn : args.length = 2 := by
      have : arityF 10 = 2 := rfl
      omega
    obtain ⟨p, q, rfl⟩ : ∃ p q, args = [p, q] := by
      match args, hn with
      | [p, q], _ => exact ⟨p, q, rfl⟩
    have IP := IH p (by simp)
    have IQ := IH q (by simp)
    have hkz : k = 0 := hk0 (by omega)
    subst hkz
    have huz : u = 0 := hu1 (by decide)
    subst huz
    have hvz : v = 0 := hv1 (by decide)
    subst hvz
    have hx : nodeL ss 10 0 0 0 (List.map (Fm.textL ss) [p, q]) ++ tail = [40] ++ (p.textL ss ++ (124 :: (q.textL ss ++ (41 :: tail)))) := by
      simp only [nodeL, Int.reduceEq, if_true, if_false, partL, List.map_cons, List.map_nil, List.getD_cons_zero, List.getD_cons_succ, List.append_assoc, List.cons_append, List.nil_append]
    rw [hx]
    unfold allP
    rw [if_neg (by simp)]
    rw [take_no (w := [116, 114, 117, 101]) (l := [40] ++ (p.textL ss ++ (124 :: (q.textL ss ++ (41 :: tail))))) rfl, if_neg (by simp)]
    rw [take_no (w := [111, 110, 32]) (l := [40] ++ (p.textL ss ++ (124 :: (q.textL ss ++ (41 :: tail))))) rfl, if_neg (by simp)]
    rw [take_no (w := [102, 114, 111, 109, 32]) (l := [40] ++ (p.textL ss ++ (124 :: (q.textL ss ++ (41 :: tail))))) rfl, if_neg (by simp)]
    rw [take_no (w := [115, 104, 97, 114, 101, 100, 58]) (l := [40] ++ (p.textL ss ++ (124 :: (q.textL ss ++ (41 :: tail))))) rfl, if_neg (by simp)]
    rw [take_no (w := [110, 101, 120, 116, 58]) (l := [40] ++ (p.textL ss ++ (124 :: (q.textL ss ++ (41 :: tail))))) rfl, if_neg (by simp)]
    rw [take_no (w := [115, 97, 109, 101, 58]) (l := [40] ++ (p.textL ss ++ (124 :: (q.textL ss ++ (41 :: tail))))) rfl, if_neg (by simp)]
    rw [take_no (w := [112, 97, 116, 104, 58]) (l := [40] ++ (p.textL ss ++ (124 :: (q.textL ss ++ (41 :: tail))))) rfl, if_neg (by simp)]
    rw [take_no (w := [33]) (l := [40] ++ (p.textL ss ++ (124 :: (q.textL ss ++ (41 :: tail))))) rfl, if_neg (by simp)]
    rw [take_no (w := [115, 111, 109, 101, 32]) (l := [40] ++ (p.textL ss ++ (124 :: (q.textL ss ++ (41 :: tail))))) rfl, if_neg (by simp)]
    rw [take_no (w := [97, 108, 108, 32]) (l := [40] ++ (p.textL ss ++ (124 :: (q.textL ss ++ (41 :: tail))))) rfl, if_neg (by simp)]
    rw [must_yes, if_neg (by simp)]
    unfold twoP
    simp only [IP]
    rw [take_no (w := [38]) (l := 124 :: (q.textL ss ++ (41 :: tail))) rfl]
    have h1 := must_yes [124] (q.textL ss ++ (41 :: tail))
    simp only [List.cons_append, List.nil_append] at h1
    simp only [h1]
    rw [if_neg (by simp), if_neg (by simp), if_neg (by simp), IQ]
    have h2 := must_yes [41] tail
    simp only [List.cons_append, List.nil_append] at h2
    rw [h2]
  · have hn : args.length = 1 := by
      have : arityF 11 = 1 := rfl
      omega
    obtain ⟨p, rfl⟩ : ∃ p, args = [p] := by
      match args, hn with
      | [p], _ => exact ⟨p, rfl⟩
    have IP := IH p (by simp)
    have hkz : k = 0 := hk0 (by omega)
    subst hkz
    have hvz : v = 0 := hv1 (by decide)
    subst hvz
    have hx : nodeL ss 11 0 u 0 (List.map (Fm.textL ss) [p]) ++ tail = [115, 111, 109, 101, 32] ++ (letterL u ++ (46 :: (p.textL ss ++ tail))) := by
      simp only [nodeL, Int.reduceEq, if_true, if_false, partL, List.map_cons, List.map_nil, List.getD_cons_zero, List.getD_cons_succ, List.append_assoc, List.cons_append, List.nil_append]
    rw [hx]
    unfold allP
    rw [if_neg (by simp)]
    rw [take_no (w := [116, 114, 117, 101]) (l := [115, 111, 109, 101, 32] ++ (letterL u ++ (46 :: (p.textL ss ++ tail)))) rfl, if_neg (by simp)]
    rw [take_no (w := [111, 110, 32]) (l := [115, 111, 109, 101, 32] ++ (letterL u ++ (46 :: (p.textL ss ++ tail)))) rfl, if_neg (by simp)]
    rw [take_no (w := [102, 114, 111, 109, 32]) (l := [115, 111, 109, 101, 32] ++ (letterL u ++ (46 :: (p.textL ss ++ tail)))) rfl, if_neg (by simp)]
    rw [take_no (w := [115, 104, 97, 114, 101, 100, 58]) (l := [115, 111, 109, 101, 32] ++ (letterL u ++ (46 :: (p.textL ss ++ tail)))) rfl, if_neg (by simp)]
    rw [take_no (w := [110, 101, 120, 116, 58]) (l := [115, 111, 109, 101, 32] ++ (letterL u ++ (46 :: (p.textL ss ++ tail)))) rfl, if_neg (by simp)]
    rw [take_no (w := [115, 97, 109, 101, 58]) (l := [115, 111, 109, 101, 32] ++ (letterL u ++ (46 :: (p.textL ss ++ tail)))) rfl, if_neg (by simp)]
    rw [take_no (w := [112, 97, 116, 104, 58]) (l := [115, 111, 109, 101, 32] ++ (letterL u ++ (46 :: (p.textL ss ++ tail)))) rfl, if_neg (by simp)]
    rw [take_no (w := [33]) (l := [115, 111, 109, 101, 32] ++ (letterL u ++ (46 :: (p.textL ss ++ tail)))) rfl, if_neg (by simp)]
    rw [take_yes, if_pos rfl]
    have h1 := must_yes [46] (p.textL ss ++ tail)
    simp only [List.cons_append, List.nil_append] at h1
    unfold bindP
    rw [var_yes hu, h1, IP]
  · have hn : args.length = 1 := by
      have : arityF 12 = 1 := rfl
      omega
    obtain ⟨p, rfl⟩ : ∃ p, args = [p] := by
      match args, hn with
      | [p], _ => exact ⟨p, rfl⟩
    have IP := IH p (by simp)
    have hkz : k = 0 := hk0 (by omega)
    subst hkz
    have hvz : v = 0 := hv1 (by decide)
    subst hvz
    have hx : nodeL ss 12 0 u 0 (List.map (Fm.textL ss) [p]) ++ tail = [97, 108, 108, 32] ++ (letterL u ++ (46 :: (p.textL ss ++ tail))) := by
      simp only [nodeL, Int.reduceEq, if_false, partL, List.map_cons, List.map_nil, List.getD_cons_zero, List.getD_cons_succ, List.append_assoc, List.cons_append, List.nil_append]
    rw [hx]
    unfold allP
    rw [if_neg (by simp)]
    rw [take_no (w := [116, 114, 117, 101]) (l := [97, 108, 108, 32] ++ (letterL u ++ (46 :: (p.textL ss ++ tail)))) rfl, if_neg (by simp)]
    rw [take_no (w := [111, 110, 32]) (l := [97, 108, 108, 32] ++ (letterL u ++ (46 :: (p.textL ss ++ tail)))) rfl, if_neg (by simp)]
    rw [take_no (w := [102, 114, 111, 109, 32]) (l := [97, 108, 108, 32] ++ (letterL u ++ (46 :: (p.textL ss ++ tail)))) rfl, if_neg (by simp)]
    rw [take_no (w := [115, 104, 97, 114, 101, 100, 58]) (l := [97, 108, 108, 32] ++ (letterL u ++ (46 :: (p.textL ss ++ tail)))) rfl, if_neg (by simp)]
    rw [take_no (w := [110, 101, 120, 116, 58]) (l := [97, 108, 108, 32] ++ (letterL u ++ (46 :: (p.textL ss ++ tail)))) rfl, if_neg (by simp)]
    rw [take_no (w := [115, 97, 109, 101, 58]) (l := [97, 108, 108, 32] ++ (letterL u ++ (46 :: (p.textL ss ++ tail)))) rfl, if_neg (by simp)]
    rw [take_no (w := [112, 97, 116, 104, 58]) (l := [97, 108, 108, 32] ++ (letterL u ++ (46 :: (p.textL ss ++ tail)))) rfl, if_neg (by simp)]
    rw [take_no (w := [33]) (l := [97, 108, 108, 32] ++ (letterL u ++ (46 :: (p.textL ss ++ tail)))) rfl, if_neg (by simp)]
    rw [take_no (w := [115, 111, 109, 101, 32]) (l := [97, 108, 108, 32] ++ (letterL u ++ (46 :: (p.textL ss ++ tail)))) rfl, if_neg (by simp)]
    rw [take_yes, if_pos rfl]
    have h1 := must_yes [46] (p.textL ss ++ tail)
    simp only [List.cons_append, List.nil_append] at h1
    unfold bindP
    rw [var_yes hu, h1, IP]
end Go.Proofs.YtplchhahjmoodaaGreatDoor
