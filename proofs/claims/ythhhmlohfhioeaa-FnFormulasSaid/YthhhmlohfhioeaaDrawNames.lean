/-
  The draws of chapter 2: a name, a list of names, a list of numbers: of what is drawn only the range is told.
-/
import Derived.Test.YthhhmlohfhioeaaDrawOn
import Derived.Test.YthhhmlohfhioeaaApart
namespace Go.Proofs.Ythhhmlohfhioeaa
open Go Go.RowKit

theorem Cur.upto {w w' : World} {g : Nat} (h : Cur w g) (hb : Below (g + 1) w w') : Cur w' g := by
  obtain ⟨a, n, cap, i, x, hg, h1, h2, h3⟩ := h
  exact ⟨a, n, cap, i, x, (hb.block g (by omega)).trans hg, h1, h2, h3.keeps fun p hp => hb.cell (by omega)⟩
theorem Cur.own {w w' : World} {g : Nat} {e n : Nat} {v : Value} {xs : List Value} (h : Cur w g) (hown : w.ownsRow (g + 1) e 1 v n xs) (hg : w.grownBy w' v.ownBlock) : Cur w' g :=
  h.upto ((Below.refl _ _).grown hg h.lt fun k hk => (hown.lt k hk).1)
theorem own_drawn {w w' : World} {g : Nat} {e n : Nat} {v : Value} {xs : List Value} (hown : w.ownsRow (g + 1) e 1 v n xs) (hg : w.grownBy w' (some g)) : w'.ownsRow (g + 1) e 1 v n xs :=
  own_other hown hg fun k hk e => by
    have := (hown.lt k hk).1
    injection e with e
    omega

def drawnNames : List ByteArray := [⟨#[120]⟩, ⟨#[97, 98]⟩, ⟨#[97, 98, 99]⟩, ⟨#[]⟩, ⟨#[88]⟩, ⟨#[120, 49]⟩, ⟨#[97, 45]⟩]
theorem drawnNames_size : ∀ s ∈ drawnNames, s.size ≤ 21 := by decide
def ShortTextEnd (w : World) (e : Ending) (w' : World) : Prop := ∃ s : ByteArray, s.size ≤ 21 ∧ e = .returned (.string s) ∧ Below w.heap.size w w'
def drawnVars : List ByteArray := [⟨#[120]⟩, ⟨#[121]⟩, ⟨#[116]⟩, ⟨#[112]⟩, ⟨#[113, 113]⟩, ⟨#[88]⟩]
theorem drawnVars_size : ∀ s ∈ drawnVars, s.size ≤ 21 := by decide
/-- A list of short strings, drawn. -/
def DrawnStrs (w : World) (e : Ending) (w' : World) : Prop :=
  ∃ (a : Option Addr) (cap : Nat) (ss : List ByteArray), e = .returned (.slice a ss.length cap) ∧ ss.length ≤ 6 ∧ (∀ s ∈ ss, s.size ≤ 21) ∧ w'.ownsRow w.heap.size 9 1 (.slice a ss.length cap) ss.length (strVals ss) ∧ Below w.heap.size w w'
theorem drawn_end {w w' : World} {base : Nat} {v : Value} {qs : List ByteArray} (hw : w.heap.size ≤ base) (hl : qs.length ≤ 6) (hs : ∀ s ∈ qs, s.size ≤ 21) (h : w'.ownsRow base 9 1 v qs.length (strVals qs)) (hb : Below w.heap.size w w') : DrawnStrs w (.returned v) w' := by
  obtain ⟨a5, c5, hv5⟩ : ∃ a5 c5, v = .slice a5 qs.length c5 := by
    rcases h.2 with ⟨h1, h2⟩ | ⟨g5, c5, _, h1, _⟩
    · exact ⟨none, 0, by rw [h1, h2]⟩
    · exact ⟨_, c5, h1⟩
  subst hv5
  exact ⟨a5, c5, qs, rfl, hl, hs, own_base h hw, hb⟩
theorem all_snoc {α : Type} {P : α → Prop} {l : List α} {x : α} (h : ∀ y ∈ l, P y) (hx : P x) : ∀ y ∈ l ++ [x], P y := by
  intro y hy
  rcases List.mem_append.1 hy with h1 | h1
  · exact h y h1
  · rw [List.mem_singleton.1 h1]
    exact hx
theorem strInfo2 : (Try.prog.info? 9).map (fun i => (i.zero, i.size, i.bytes)) = some (some (.string ⟨#[]⟩), 1, 16) := by kernel_rfl
def drawnKeys : List ByteArray := [⟨#[120]⟩, ⟨#[121]⟩, ⟨#[122, 122]⟩]
theorem drawnKeys_size : ∀ s ∈ drawnKeys, s.size ≤ 21 := by decide
def DrawnStrsKey (w : World) (e : Ending) (w' : World) : Prop :=
  ∃ (a : Option Addr) (cap : Nat) (ss : List ByteArray) (s : ByteArray), e = .returned (.tuple #[.slice a ss.length cap, .string s]) ∧ ss.length ≤ 6 ∧ s.size ≤ 21 ∧ (∀ s ∈ ss, s.size ≤ 21) ∧ Row w' w'.heap.size a (strVals ss) ∧ Below w.heap.size w w'
/-- A list of small ints and one, drawn. -/
def DrawnInts (w : World) (e : Ending) (w' : World) : Prop :=
  ∃ (a : Option Addr) (cap : Nat) (ns : List Int) (n : Int), e = .returned (.tuple #[.slice a ns.length cap, .int .i64 n]) ∧ ns.length ≤ 6 ∧ Row w' w'.heap.size a (intVals ns) ∧ Below w.heap.size w w'
theorem drawnInts_end {w w' : World} {base e : Nat} {v : Value} {qs : List Int} {n : Int} (hl : qs.length ≤ 6) (h : w'.ownsRow base e 1 v qs.length (intVals qs)) (hb : Below w.heap.size w w') : DrawnInts w (.returned (.tuple #[v, .int .i64 n])) w' := by
  obtain ⟨a5, c5, hv5⟩ : ∃ a5 c5, v = .slice a5 qs.length c5 := by
    rcases h.2 with ⟨h1, h2⟩ | ⟨g5, c5, _, h1, _⟩
    · exact ⟨none, 0, by rw [h1, h2]⟩
    · exact ⟨_, c5, h1⟩
  subst hv5
  exact ⟨a5, c5, qs, n, rfl, hl, Row.owned h, hb⟩
theorem intInfo2 : (Try.prog.info? 3).map (fun i => (i.zero, i.size, i.bytes)) = some (some (.int .i64 0), 1, 8) := by kernel_rfl
end Go.Proofs.Ythhhmlohfhioeaa
