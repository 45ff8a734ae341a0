/-
  Several texts of one proof in one file, in the order in which they build.
-/
import Derived.LaidLaws
import Derived.OpenVars
import Derived.OpenShut
import Derived.ChangeArms
import Derived.Stop.LaidErr
import Derived.Lib.LaidTab
import Derived.Test.YtplchhahjmoodaaGreatDoorChecked
import Derived.Test.YtplchhahjmoodaaGreatDoorRows
import Derived.Test.YtplchhahjmoodaaGreatDoorZ02
/-
  What a listed table gives the walks: a package-level variable of arrays, structs, numbers, bools and strings that reads as0 a known datum holds just the cells of that datum. Nothing here knows of the program.
-/
namespace Go.Proofs.YtplchhahjmoodaaGreatDoor
open Go Go.RowKit Go.ChangeShapes Go.WideShapes Go.ChangeAt

mutual
/-- The cells of a plain datum. -/
def flat : DataW Unit → List Value
  | .lit (.int k n) => [.int k n]
  | .lit (.bool b) => [.bool b]
  | .lit (.string l) => [.string ⟨l.toArray⟩]
  | .agg parts => flatAll parts
  | _ => []
def flatAll : List (DataW Unit) → List Value
  | [] => []
  | d :: r => flat d ++ flatAll r
end
theorem flatAll_eq (ds : List (DataW Unit)) : flatAll ds = ds.flatMap flat := by
  induction ds with
  | nil => rfl
  | cons d r ih => simp [flatAll, ih]

/-- Fields that lie one behind the other. -/
def closeB (P : Program) : Nat → List Field → Nat → Bool
  | o, [], n => o == n
  | o, f :: r, n => f.offset == o && closeB P (o + P.cellsOf f.type) r n
/-- A type of arrays, structs, numbers, bools and strings, its parts one behind the other. -/
def flatB (P : Program) : Nat → TypeId → Bool
  | 0, _ => false
  | m + 1, t => match P.underlying t with
    | some (.int _) | some .bool | some .string => true
    | some (.array n e) => P.cellsOf t == n * P.cellsOf e && flatB P m e
    | some (.struct fs) => closeB P 0 fs.toList (P.cellsOf t) && fs.toList.all fun f => flatB P m f.type
    | _ => false

theorem split_even {α : Type} (c : Nat) : ∀ (n : Nat) (l : List α), l.length = n * c → l = (List.range n).flatMap fun i => (l.drop (i * c)).take c
  | 0, l, h => by simp at h; simp [h]
  | n + 1, l, h => by
    have h1 := split_even c n (l.drop c) (by simp [h]; rw [Nat.add_mul]; omega)
    have h2 : ((List.range n).flatMap fun i => ((l.drop c).drop (i * c)).take c) = (List.range n).flatMap fun i => (l.drop ((i + 1) * c)).take c := by
      congr 1
      funext i
      rw [List.drop_drop, Nat.add_mul, Nat.one_mul, Nat.add_comm]
    rw [List.range_succ_eq_map, List.flatMap_cons, List.flatMap_map, Nat.zero_mul, List.drop_zero]
    exact ((List.take_append_drop c l).symm).trans (congrArg (l.take c ++ ·) (h1.trans h2))

theorem split_close {P : Program} {α : Type} : ∀ (fs : List Field) (o n : Nat) (l : List α), closeB P o fs n = true → l.length = n → l.drop o = fs.flatMap fun f => (l.drop f.offset).take (P.cellsOf f.type)
  | [], o, n, l, h, hl => by
    simp [closeB] at h
    simp [List.drop_eq_nil_iff]
    omega
  | f :: r, o, n, l, h, hl => by
    simp only [closeB, Bool.and_eq_true, beq_iff_eq] at h
    rw [List.flatMap_cons, ← split_close r _ n l h.2 hl, h.1, ← List.drop_drop, List.take_append_drop]

theorem zip_flat {α β γ : Type} {f : α → List γ} {g : β → List γ} : ∀ (as0 : List α) (xs : List β), as0.length = xs.length → (∀ (i : Nat) a x, as0[i]? = some a → xs[i]? = some x → f a = g x) → as0.flatMap f = xs.flatMap g
  | [], [], _, _ => rfl
  | [], _ :: _, h, _ => by simp at h
  | _ :: _, [], h, _ => by simp at h
  | a :: as0, x :: xs, h, hf => by
    rw [List.flatMap_cons, List.flatMap_cons, hf 0 a x rfl rfl, zip_flat as0 xs (by simpa using h) fun i b y hb hy => hf (i + 1) b y (by simpa using hb) (by simpa using hy)]

theorem flat_agg (xs : List (DataW Unit × List MemPlace)) : flat (.agg (xs.map (·.1))) = xs.flatMap fun x => flat x.1 := by
  rw [flat, flatAll_eq, List.flatMap_map]

theorem flat_of_trod {P : Program} {w : World} {base : Nat} {sp : Nat → Bool} {held : Bool} {enc : TypeId × Value → Unit} : ∀ (m : Nat) {fuel : Nat} {t : TypeId} {cs : List Value} {d : DataW Unit} {p : List MemPlace},
    flatB P m t = true → DataW.trod enc P w base sp held fuel t cs = some (d, p) → cs = flat d
  | 0, _, _, _, _, _, hf, _ => by simp [flatB] at hf
  | m + 1, fuel, t, cs, d, p, hf, h => by
    unfold flatB at hf
    split at hf
    · rename_i k hk
      obtain ⟨n, rfl, hx, _⟩ := DataW.trod_int hk h
      simp only [Prod.mk.injEq] at hx
      rw [hx.1]; rfl
    · rename_i hk
      obtain ⟨b, rfl, hx⟩ := DataW.trod_bool hk h
      simp only [Prod.mk.injEq] at hx
      rw [hx.1]; rfl
    · rename_i hk
      obtain ⟨s, rfl, hx, _⟩ := DataW.trod_string hk h
      simp only [Prod.mk.injEq] at hx
      rw [hx.1]
      simp [flat]
    · rename_i n e hk
      simp only [Bool.and_eq_true, beq_iff_eq] at hf
      obtain ⟨xs, m', rfl, hx, hlen, hn, hel⟩ := DataW.trod_array hk h
      simp only [Prod.mk.injEq] at hx
      rw [hx.1, flat_agg, split_even (P.cellsOf e) n cs (by rw [hlen, hf.1])]
      refine zip_flat _ _ (by simp [hn]) fun i a x ha hxi => ?_
      obtain ⟨hi, rfl⟩ : i < n ∧ a = i := by
        rw [List.getElem?_eq_some_iff] at ha
        obtain ⟨h1, h2⟩ := ha
        simp at h1 h2
        exact ⟨h1, h2.symm⟩
      exact flat_of_trod m hf.2 ((hel a hi).trans hxi)
    · rename_i fs hk
      simp only [Bool.and_eq_true, List.all_eq_true] at hf
      obtain ⟨xs, m', rfl, hx, hlen, hn, hel⟩ := DataW.trod_struct hk h
      simp only [Prod.mk.injEq] at hx
      have hs := split_close fs.toList 0 _ cs hf.1 hlen
      rw [List.drop_zero] at hs
      rw [hx.1, flat_agg, hs]
      refine zip_flat _ _ (by simp [hn]) fun i a x ha hxi => ?_
      exact flat_of_trod m (hf.2 a (List.mem_of_getElem? ha)) ((hel i a (by simpa using ha)).trans hxi)
    · cases hf

/-- A listed variable of a flat type holds the cells of its datum. -/
theorem laid_at {P : Program} {W : World} : ∀ {l : List (String × DataW Unit)} (i : Nat) {name : String} {d : DataW Unit} {g : Nat} {t : TypeId}, laidMet P l W → l[i]? = some (name, d) → P.globalNamed name = some g → (P.globals[g]?).map (·.type) = some t → flatB P 8 t = true →
    W.var? P name = some (flat d).toArray
  | [], i, _, _, _, _, _, hi, _, _, _ => by simp at hi
  | x :: l, i + 1, _, _, _, _, h, hi, hg, ht, hf => laid_at i h.tail (by simpa using hi) hg ht hf
  | (n, e) :: l, 0, name, d, g, t, h, hi, hg, ht, hf => by
    obtain ⟨rfl, rfl⟩ : n = name ∧ e = d := by simpa using hi
    obtain ⟨ps, ⟨g', t', cs, fuel, p, q, hg', ht', hvar, hd, _, _⟩, _⟩ := h
    obtain rfl := Option.some.inj (hg.symm.trans hg')
    obtain rfl := Option.some.inj (ht.symm.trans ht')
    rw [hvar, ← flat_of_trod 8 hf hd]

/-- The first of the named variables' data. -/
theorem gs_cons {H : Type} {enc : TypeId × Value → H} {P : Program} {w : World} {sp : Nat → Bool} {n : String} {ns : List String} {gs : List (DataW H)} {ps : List MemPlace} (h : DataW.TrodVars enc P w sp (n :: ns) gs ps) :
    ∃ d ds q, gs = d :: ds ∧ DataW.TrodVars enc P w sp ns ds q := by
  cases gs with
  | nil => exact h.elim
  | cons d ds =>
    obtain ⟨g, t, cs, fuel, p, q, _, _, _, _, hs, _⟩ := h
    exact ⟨d, ds, q, rfl, hs⟩

theorem var_stays {P : Program} {w w' : World} {n : String} {cs : Array Value} (h : w.var? P n = some cs) (hb : Below w.heap.size w w') : w'.var? P n = some cs := by
  unfold World.var? at h ⊢
  cases hg : P.globalNamed n with
  | none => simp [hg] at h
  | some g =>
    simp only [hg, Option.bind_some] at h ⊢
    have hlt : g < w.heap.size := by
      rcases Nat.lt_or_ge g w.heap.size with h' | h'
      · exact h'
      · simp [Array.getElem?_eq_none h'] at h
    rw [hb.block g hlt]
    exact h

/-- A law's last step where its row names variables of the program's own: it returned true, and nothing that was there has turned. -/
theorem law_post_vars {H : Type} {enc : TypeId × Value → H} {P : Program} (hl : laidOutB P = true) {f : Func} {s : ChangeSpec} {W W' : World} {args : Array Value} {ds gs : List (DataW H)} {before : List MemPlace} {bt : TypeId}
    (hvars : varsRowed P s.vars = true) (hp : (f.params.toList.all fun t => P.readableRec t && decide (t < P.types.size)) = true) (hres : f.resultTypes = #[bt]) (hbt : P.underlying bt = some .bool)
    (hW : DataW.Whole enc P f.params.toList s.vars false W args.toList ds gs before) (hfn : s.fn H (ds ++ gs) = { results := [.lit (.bool true)], args := ds, vars := gs }) (hb : Below W.heap.size W W') :
    s.post enc P f false true false false W args (.bool true) W' := by
  have hW' := hW
  obtain ⟨p, q, hA, hV, rfl, _, _⟩ := hW
  have hlt : ∀ x ∈ p, x.block < W.heap.size := fun x hx => hW'.lt x (by simp [hx])
  refine ⟨ds, gs, p ++ q, [], p, q, hW', ?_, ?_, ?_, hb.frame _, fun h => by cases h⟩
  · rw [hfn, hres]
    exact trodAll_mk1 (shut_bool hbt true)
  · rw [hfn]
    exact trodAll_stay hl hb hp hlt hA
  · rw [hfn]
    exact Below.trodVars hl hb hvars hV
end Go.Proofs.YtplchhahjmoodaaGreatDoor
/-
  The program's table of the words of formulas.
-/
namespace Go.Proofs.YtplchhahjmoodaaGreatDoor
open Go Go.RowKit

def HasFormulaWords (w : World) : Prop := w.var? Tryz.prog "loop.example/g00590/impl.formulaWords" = some #[Value.string ⟨#[]⟩, Value.string ⟨#[116, 114, 117, 101]⟩, Value.string ⟨#[111, 110]⟩, Value.string ⟨#[102, 114, 111, 109]⟩, Value.string ⟨#[115, 104, 97, 114, 101, 100]⟩, Value.string ⟨#[110, 101, 120, 116]⟩, Value.string ⟨#[115, 97, 109, 101]⟩, Value.string ⟨#[112, 97, 116, 104]⟩, Value.string ⟨#[33]⟩, Value.string ⟨#[38]⟩, Value.string ⟨#[124]⟩, Value.string ⟨#[115, 111, 109, 101]⟩, Value.string ⟨#[97, 108, 108]⟩]
theorem HasFormulaWords.keeps {w w' : World} (h : HasFormulaWords w) (hb : Below w.heap.size w w') : HasFormulaWords w' := var_stays h hb
theorem gFormulaWords : Tryz.prog.globalNamed "loop.example/g00590/impl.formulaWords" = some 0 := by kernel_rfl
theorem formulaWords_of {W : World} (i : Nat) {l : List (String × DataW Unit)} (h : laidMet Tryz.prog l W) (hi : l[i]? = some ("loop.example/g00590/impl.formulaWords", Rows.laid_loop_example_g00590_impl_formulaWords)) : HasFormulaWords W :=
  (laid_at (t := 116) i h hi gFormulaWords (by kernel_rfl) (by kernel_rfl)).trans (congrArg some (show (flat Rows.laid_loop_example_g00590_impl_formulaWords).toArray = _ by kernel_rfl))
theorem HasFormulaWords.cell {w : World} (h : HasFormulaWords w) (i : Nat) : w.cell? ⟨0, i, none⟩ = (#[Value.string ⟨#[]⟩, Value.string ⟨#[116, 114, 117, 101]⟩, Value.string ⟨#[111, 110]⟩, Value.string ⟨#[102, 114, 111, 109]⟩, Value.string ⟨#[115, 104, 97, 114, 101, 100]⟩, Value.string ⟨#[110, 101, 120, 116]⟩, Value.string ⟨#[115, 97, 109, 101]⟩, Value.string ⟨#[112, 97, 116, 104]⟩, Value.string ⟨#[33]⟩, Value.string ⟨#[38]⟩, Value.string ⟨#[124]⟩, Value.string ⟨#[115, 111, 109, 101]⟩, Value.string ⟨#[97, 108, 108]⟩] : Array Value)[i]? := World.var?_cell gFormulaWords h i
end Go.Proofs.YtplchhahjmoodaaGreatDoor
