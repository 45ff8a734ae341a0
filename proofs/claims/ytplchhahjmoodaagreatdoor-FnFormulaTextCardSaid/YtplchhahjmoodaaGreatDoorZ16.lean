/-
  Several texts of one proof in one file, in the order in which they build.
-/
import Derived.Test.YtplchhahjmoodaaGreatDoorChecked
import Derived.Test.YtplchhahjmoodaaGreatDoorZ06
import Derived.Test.YtplchhahjmoodaaGreatDoorZ08
import Derived.Test.YtplchhahjmoodaaGreatDoorZ15
import Derived.Test.YtplchhahjmoodaaGreatDoorZ11
import Derived.Test.YtplchhahjmoodaaGreatDoorZ04
/-
  Boxes of any number of cells that may be written, in the words of intervals.
-/
namespace Go.Proofs.YtplchhahjmoodaaGreatDoor
open Go Go.RowKit

/-- A box of some cells that may be written. -/
structure BoxL (W : World) (g : Nat) (xs : List Value) : Prop where
  c : ∀ i x, xs[i]? = some x → W.cell? ⟨g, i, none⟩ = some x
  f : ∀ o, W.frozen? ⟨g, o, none⟩ = false
  lt : g < W.heap.size
section
variable {W W' : World} {g lo hi : Nat} {xs : List Value}
theorem BoxL.new (w : World) (xs : List Value) (t : TypeId) : BoxL (w.alloc (.cells xs.toArray t)) w.heap.size xs :=
  ⟨fun i x hx => by rw [World.cell?_alloc_at _ _ _ _ rfl]; simpa using hx, fun o => by simp [go_sem], by simp⟩
theorem two_boxL (w : World) (xs ys : List Value) (t t' : TypeId) : ∃ W0, (w.alloc (.cells xs.toArray t)).alloc (.cells ys.toArray t') = W0 ∧ Below w.heap.size w W0 ∧ BoxL W0 w.heap.size xs ∧ BoxL W0 (w.heap.size + 1) ys := by
  have h1 := BoxL.new w xs t
  have h2 := BoxL.new (w.alloc (.cells xs.toArray t)) ys t'
  have hs : (w.alloc (.cells xs.toArray t)).heap.size = w.heap.size + 1 := by simp
  have hb := (Below.refl (w.alloc (.cells xs.toArray t)).heap.size (w.alloc (.cells xs.toArray t))).alloc (Nat.le_refl _) (.cells ys.toArray t')
  rw [hs] at h2
  refine ⟨_, rfl, ((Below.refl _ _).alloc (Nat.le_refl _) _).alloc (by simp) _, ⟨fun i x hx => (hb.cell (p := ⟨w.heap.size, i, none⟩) (by rw [hs]; exact Nat.lt_succ_self _)).trans (h1.c i x hx), fun o => (hb.frozen (p := ⟨w.heap.size, o, none⟩) (by rw [hs]; exact Nat.lt_succ_self _)).trans (h1.f o), by simp; omega⟩, h2⟩
theorem BoxL.turn (h : BoxL W g xs) (t : Turn lo hi W W') (hd : g < lo ∨ hi ≤ g) : BoxL W' g xs :=
  ⟨fun i x hx => (World.cell?_of_block (t.block g h.lt hd)).trans (h.c i x hx), fun o => (World.frozen?_of_block (t.block g h.lt hd)).trans (h.f o), Nat.lt_of_lt_of_le h.lt t.size⟩
theorem BoxL.below (h : BoxL W g xs) (hb : Below W.heap.size W W') : BoxL W' g xs := h.turn (lo := g + 1) (hi := g + 1) (Turn.of_below hb) (.inl (Nat.lt_succ_self g))
theorem turn_set (W : World) (b i : Nat) (u : Value) : Turn b (b + 1) W (W.setCell ⟨b, i, none⟩ u) :=
  ⟨rfl, rfl, rfl, by simp, fun k _ hd => Below.heap_setCell _ _ _ _ (by show k ≠ b; omega)⟩
theorem BoxL.set (h : BoxL W g xs) (i : Nat) (u : Value) : BoxL (W.setCell ⟨g, i, none⟩ u) g (xs.set i u) := by
  refine ⟨fun j x hx => ?_, fun o => by simp [go_sem, h.f o], by simpa using h.lt⟩
  by_cases hij : i = j
  · subst hij
    have hl : i < xs.length := by
      have := (List.getElem?_eq_some_iff.1 hx).1
      simpa using this
    rw [List.getElem?_set_self hl] at hx
    obtain rfl := Option.some.inj hx
    exact World.cell?_setCell_same _ _ _ (h.c i _ (List.getElem?_eq_getElem hl))
  · rw [List.getElem?_set_ne hij] at hx
    exact (World.cell?_setCell_other _ _ _ _ (fun e => hij (by have := congrArg Addr.off e; simp at this; omega))).trans (h.c j x hx)
end
end Go.Proofs.YtplchhahjmoodaaGreatDoor
/-
  The text of a formula: what the document says; how long it is. Nothing here knows of the program.
-/
namespace Go.Proofs.YtplchhahjmoodaaGreatDoor
open Go Go.RowKit

def letterT (n : Int) : ByteArray := if n = 0 then ⟨#[117]⟩ else if n = 1 then ⟨#[118]⟩ else if n = 2 then ⟨#[119]⟩ else ⟨#[122]⟩
theorem letterT_size (n : Int) : (letterT n).size = 1 := by
  unfold letterT
  repeat' split
  all_goals rfl
def nameAt (ss : List ByteArray) (k : Int) : ByteArray := ss.getD k.toNat ⟨#[]⟩
def partT (ts : List ByteArray) (i : Nat) : ByteArray := ts.getD i ⟨#[]⟩
def nodeT (ss : List ByteArray) (kd k u v : Int) (ts : List ByteArray) : ByteArray :=
  if kd = 1 then ⟨#[116, 114, 117, 101]⟩
  else if kd = 2 then (⟨#[111, 110, 32]⟩ : ByteArray) ++ nameAt ss k ++ ⟨#[58]⟩ ++ letterT u
  else if kd = 3 then (⟨#[102, 114, 111, 109, 32]⟩ : ByteArray) ++ nameAt ss k ++ ⟨#[58]⟩ ++ letterT u
  else if kd = 4 then (⟨#[115, 104, 97, 114, 101, 100, 58]⟩ : ByteArray) ++ letterT u
  else if kd = 5 then (⟨#[110, 101, 120, 116, 58]⟩ : ByteArray) ++ letterT u ++ letterT v
  else if kd = 6 then (⟨#[115, 97, 109, 101, 58]⟩ : ByteArray) ++ letterT u ++ letterT v
  else if kd = 7 then (⟨#[112, 97, 116, 104, 58]⟩ : ByteArray) ++ letterT u ++ letterT v
  else if kd = 8 then (⟨#[33]⟩ : ByteArray) ++ partT ts 0
  else if kd = 9 then (⟨#[40]⟩ : ByteArray) ++ partT ts 0 ++ ⟨#[38]⟩ ++ partT ts 1 ++ ⟨#[41]⟩
  else if kd = 10 then (⟨#[40]⟩ : ByteArray) ++ partT ts 0 ++ ⟨#[124]⟩ ++ partT ts 1 ++ ⟨#[41]⟩
  else if kd = 11 then (⟨#[115, 111, 109, 101, 32]⟩ : ByteArray) ++ letterT u ++ ⟨#[46]⟩ ++ partT ts 0
  else (⟨#[97, 108, 108, 32]⟩ : ByteArray) ++ letterT u ++ ⟨#[46]⟩ ++ partT ts 0
mutual
def Fm.textT (ss : List ByteArray) : Fm → ByteArray
  | .mk kd k u v pp => nodeT ss kd k u v (Fm.textsT ss pp)
def Fm.textsT (ss : List ByteArray) : List Fm → List ByteArray
  | [] => []
  | t :: ts => t.textT ss :: Fm.textsT ss ts
end
theorem Fm.textsT_map (ss : List ByteArray) : ∀ ts : List Fm, Fm.textsT ss ts = ts.map (Fm.textT ss)
  | [] => rfl
  | t :: ts => by rw [Fm.textsT, Fm.textsT_map ss ts]; rfl
theorem Fm.textT_eq (ss : List ByteArray) (t : Fm) : t.textT ss = nodeT ss t.kd t.k t.u t.v (t.args.map (Fm.textT ss)) := by
  cases t
  rw [Fm.textT, Fm.textsT_map]
  rfl
theorem Ft.textT_er (ss : List ByteArray) (x : Ft) : x.er.textT ss = nodeT ss x.kd x.k x.u x.v (x.args.map fun y => y.er.textT ss) := by
  rw [Fm.textT_eq, Ft.er_eq]
  show nodeT ss x.kd x.k x.u x.v ((x.args.map Ft.er).map (Fm.textT ss)) = _
  rw [List.map_map]
  rfl
theorem nameAt_size {ss : List ByteArray} (h : ∀ s ∈ ss, s.size ≤ 2) (k : Int) : (nameAt ss k).size ≤ 2 := by
  unfold nameAt
  rw [List.getD_eq_getElem?_getD]
  cases hg : ss[k.toNat]? with
  | none => simp [ByteArray.size]
  | some s => exact h s (List.mem_of_getElem? hg)
set_option maxRecDepth 20000 in
theorem node_size {ss : List ByteArray} (h : ∀ s ∈ ss, s.size ≤ 2) (kd k u v : Int) (ts : List ByteArray) (hn : (ts.length : Int) = arityF kd) : (nodeT ss kd k u v ts).size ≤ 9 + total ts := by
  have hk := nameAt_size h k
  have hu := letterT_size u
  have hv := letterT_size v
  unfold nodeT
  have b1 : (⟨#[111, 110, 32]⟩ : ByteArray).size = 3 := rfl
  have b2 : (⟨#[102, 114, 111, 109, 32]⟩ : ByteArray).size = 5 := rfl
  have b3 : (⟨#[58]⟩ : ByteArray).size = 1 := rfl
  have b4 : (⟨#[115, 104, 97, 114, 101, 100, 58]⟩ : ByteArray).size = 7 := rfl
  have b5 : (⟨#[110, 101, 120, 116, 58]⟩ : ByteArray).size = 5 := rfl
  have b6 : (⟨#[115, 97, 109, 101, 58]⟩ : ByteArray).size = 5 := rfl
  have b7 : (⟨#[112, 97, 116, 104, 58]⟩ : ByteArray).size = 5 := rfl
  have b8 : (⟨#[33]⟩ : ByteArray).size = 1 := rfl
  have b9 : (⟨#[40]⟩ : ByteArray).size = 1 := rfl
  have b10 : (⟨#[38]⟩ : ByteArray).size = 1 := rfl
  have b11 : (⟨#[41]⟩ : ByteArray).size = 1 := rfl
  have b12 : (⟨#[124]⟩ : ByteArray).size = 1 := rfl
  have b13 : (⟨#[115, 111, 109, 101, 32]⟩ : ByteArray).size = 5 := rfl
  have b14 : (⟨#[97, 108, 108, 32]⟩ : ByteArray).size = 4 := rfl
  have b15 : (⟨#[46]⟩ : ByteArray).size = 1 := rfl
  have b16 : (⟨#[116, 114, 117, 101]⟩ : ByteArray).size = 4 := rfl
  have p0 : (partT ts 0).size + (partT ts 1).size ≤ total ts := by
    match ts with
    | [] => exact Nat.zero_le _
    | [a] => exact Nat.le_refl (a.size + 0)
    | a :: b :: r =>
      simp only [partT, total, List.getD_cons_zero, List.getD_cons_succ, List.map_cons, List.sum_cons]
      omega
  by_cases h1 : kd = 1
  · rw [if_pos h1]
    omega
  rw [if_neg h1]
  by_cases h2 : kd = 2
  · rw [if_pos h2]
    simp only [ByteArray.size_append]
    omega
  rw [if_neg h2]
  by_cases h3 : kd = 3
  · rw [if_pos h3]
    simp only [ByteArray.size_append]
    omega
  rw [if_neg h3]
  by_cases h4 : kd = 4
  · rw [if_pos h4]
    simp only [ByteArray.size_append]
    omega
  rw [if_neg h4]
  by_cases h5 : kd = 5
  · rw [if_pos h5]
    simp only [ByteArray.size_append]
    omega
  rw [if_neg h5]
  by_cases h6 : kd = 6
  · rw [if_pos h6]
    simp only [ByteArray.size_append]
    omega
  rw [if_neg h6]
  by_cases h7 : kd = 7
  · rw [if_pos h7]
    simp only [ByteArray.size_append]
    omega
  rw [if_neg h7]
  by_cases h8 : kd = 8
  · rw [if_pos h8]
    simp only [ByteArray.size_append]
    omega
  rw [if_neg h8]
  by_cases h9 : kd = 9
  · rw [if_pos h9]
    simp only [ByteArray.size_append]
    omega
  rw [if_neg h9]
  by_cases h10 : kd = 10
  · rw [if_pos h10]
    simp only [ByteArray.size_append]
    omega
  rw [if_neg h10]
  by_cases h11 : kd = 11
  · rw [if_pos h11]
    simp only [ByteArray.size_append]
    omega
  rw [if_neg h11]
  simp only [ByteArray.size_append]
  omega
theorem Fm.text_size {ss : List ByteArray} (h : ∀ s ∈ ss, s.size ≤ 2) : ∀ t : Fm, t.formB ss.length = true → (t.textT ss).size ≤ 9 * t.size := by
  apply Fm.ind
  intro t ih hf
  rw [Fm.formB_eq, Bool.and_eq_true, List.all_eq_true] at hf
  have hn : (t.args.length : Int) = arityF t.kd := by
    have := hf.1
    unfold nodeB at this
    rw [Bool.and_eq_true, decide_eq_true_eq] at this
    exact this.1
  have hl := node_size h t.kd t.k t.u t.v (t.args.map (Fm.textT ss)) (by rw [List.length_map]; exact hn)
  have hs : ∀ ts : List Fm, (∀ x ∈ ts, (x.textT ss).size ≤ 9 * x.size) → total (ts.map (Fm.textT ss)) ≤ 9 * Fm.sizes ts := by
    intro ts
    induction ts with
    | nil => intro _; simp [total, Fm.sizes]
    | cons a r ihr =>
      intro hx
      have h1 := hx a (by simp)
      have h2 := ihr fun x hx' => hx x (by simp [hx'])
      simp only [total, List.map_cons, List.sum_cons, Fm.sizes] at h2 ⊢
      omega
  have h3 := hs t.args fun x hx => ih x hx (hf.2 x hx)
  rw [Fm.textT_eq, Fm.size_eq]
  omega
end Go.Proofs.YtplchhahjmoodaaGreatDoor
/-
  The letters of the logic variables: the program's and the model's.
-/
namespace Go.Proofs.YtplchhahjmoodaaGreatDoor
open Go Go.RowKit

theorem letter_cases {n : Int} (h : 0 ≤ n ∧ n ≤ 3) : n = 0 ∨ n = 1 ∨ n = 2 ∨ n = 3 := by omega
theorem implLetter (n : Int) (h : 0 ≤ n ∧ n ≤ 3) (w : World) : Calls Tryz.prog 115 #[.int .i64 n] w fun e w' => e = .returned (.string (letterT n)) ∧ w' = w := by
  rcases letter_cases h with rfl | rfl | rfl | rfl
  all_goals
    go_enter Tryz.func115, Tryz.ntmps115
    go_wp2_with fail
    go_ret
    exact ⟨rfl, rfl⟩
theorem specLetter (n : Int) (h : 0 ≤ n ∧ n ≤ 3) (w : World) : Calls Tryz.prog 86 #[.int .i64 n] w fun e w' => e = .returned (.string (letterT n)) ∧ w' = w := by
  rcases letter_cases h with rfl | rfl | rfl | rfl
  all_goals
    go_enter Tryz.func86, Tryz.ntmps86
    go_wp2_with fail
    go_ret
    exact ⟨rfl, rfl⟩
end Go.Proofs.YtplchhahjmoodaaGreatDoor
