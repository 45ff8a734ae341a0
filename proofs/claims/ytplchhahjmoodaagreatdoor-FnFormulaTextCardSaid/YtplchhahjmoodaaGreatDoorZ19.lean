/-
  A walk that notes where it has been: its list and its map, in memory; what a step leaves. Nothing here knows of the program's text.
-/
import Derived.Maps.AppendAt
import Derived.Test.YtplchhahjmoodaaGreatDoorZ13
namespace Go.Proofs.YtplchhahjmoodaaGreatDoor
open Go Go.RowKit Go.ChangeAt Go.ChangeShapes Go.WideShapes

theorem rc_lit {w : World} {base : Nat} {e : TypeId} {sz : Nat} (xs : List Value) (hl : xs.length = 1 * sz) (hb : base ≤ w.heap.size) : (w.alloc (.cells xs.toArray e)).ownsRow base e sz (.slice (some ⟨w.heap.size, 0, none⟩) 1 1) 1 xs :=
  ⟨hl, .inr ⟨w.heap.size, 1, xs.toArray, rfl, hb, (MapKept.heap_alloc w _).1, Nat.le_refl _, by unfold maxLen; omega, by simpa using hl, by simp [← hl]⟩⟩
theorem rc_shape {w : World} {base e size n : Nat} {v : Value} {xs : List Value} (h : w.ownsRow base e size v n xs) : ∃ a c, v = .slice a n c ∧ (∀ k, a = some k → k.off = 0 ∧ k.spot = none) := by
  rcases h.2 with ⟨rfl, rfl⟩ | ⟨g, cap, cur, rfl, _, _, hc, _⟩
  · exact ⟨_, _, rfl, fun k hk => by cases hk⟩
  · exact ⟨_, _, rfl, fun k hk => by cases hk; exact ⟨rfl, rfl⟩⟩
theorem rc_other {w w' : World} {base e size n : Nat} {v : Value} {xs : List Value} {row : Option Nat} (h : w.ownsRow base e size v n xs) (hg : w.grownBy w' row) (hne : ∀ k, v.ownBlock = some k → row ≠ some k) : w'.ownsRow base e size v n xs :=
  h.kept hg (by
    cases hv : v.ownBlock with
    | none => exact .inl rfl
    | some k => exact .inr (fun e => hne k hv e.symm))
theorem below_grown {B : Nat} {w wr w1 : World} {row : Option Nat} (hb : Below B w wr) (hg : wr.grownBy w1 row) (hB : B ≤ wr.heap.size) (hr : ∀ k, row = some k → B ≤ k) : Below B w w1 := hb.grown hg hB hr

/-- The list L of what has been met: in the slice v, and as the keys of the map at mb. -/
structure RS {α β : Type} (addr : α → β) (key : α → Value) (cells : α → List Value) (e : TypeId) (sz base mb : Nat) (ok : Value → Prop) (U : List α) (first : α) (w0 wr : World) (v : Value) (L : List α) : Prop where
  own : wr.ownsRow base e sz v L.length (L.flatMap cells)
  off : ∀ k, v.ownBlock = some k → k ≠ mb
  pm : PM wr mb ok (L.map key) (.bool true)
  sub : ∀ x ∈ L, x ∈ U
  nd : (L.map addr).Nodup
  below : Below base w0 wr
  first : first ∈ L
  hmb : base ≤ mb
section
variable {α β : Type} {addr : α → β} {key : α → Value} {cells : α → List Value} {e : TypeId} {sz base mb : Nat} {ok : Value → Prop} {U : List α} {first : α} {w0 wr w' : World} {v : Value} {L : List α}
theorem RS.keeps (h : RS addr key cells e sz base mb ok U first w0 wr v L) (hb : Below wr.heap.size wr w') (hB : base ≤ wr.heap.size) : RS addr key cells e sz base mb ok U first w0 w' v L :=
  ⟨own_keeps h.own hb, h.off, h.pm.below hb, h.sub, h.nd, h.below.trans (hb.mono hB), h.first, h.hmb⟩
theorem RS.le (h : RS addr key cells e sz base mb ok U first w0 wr v L) : L.length ≤ U.length := nodup_le (nodup_of_map h.nd) h.sub
/-- The map has a key more: the list waits for it. -/
theorem RS.noted {w2 : World} (h : RS addr key cells e sz base mb ok U first w0 wr v L) (hg : wr.grownBy w2 (some mb)) : w2.ownsRow base e sz v L.length (L.flatMap cells) :=
  rc_other h.own hg fun k hk e => h.off k hk (Option.some.inj e).symm
theorem RS.added {y : α} {w2 W w3 : World} {v' : Value} (h : RS addr key cells e sz base mb ok U first w0 wr v L) (hbase : base ≤ wr.heap.size) (hy : y ∈ U) (hn : addr y ∉ L.map addr) (hp : PM w2 mb ok (L.map key ++ [key y]) (.bool true)) (hg : wr.grownBy w2 (some mb))
    (hW : Below w2.heap.size w2 W) (hv : ∀ k, v.ownBlock = some k → base ≤ k) (hown : w3.ownsRow base e sz v' (L.length + 1) (L.flatMap cells ++ cells y)) (hg3 : W.grownBy w3 v.ownBlock) (hloc : v'.ownBlock = v.ownBlock ∨ v'.ownBlock = some W.heap.size) :
    RS addr key cells e sz base mb ok U first w0 w3 v' (L ++ [y]) := by
  have hz := hW.size
  have hz2 := hg.size
  have hml := hp.lt
  refine ⟨by simpa using hown, fun k hk => ?_, ?_, ?_, ?_, ?_, by simp [h.first], h.hmb⟩
  · rcases hloc with e | e
    · exact h.off k (e ▸ hk)
    · rw [e] at hk
      have := Option.some.inj hk
      omega
  · rw [List.map_append]
    have h1 := hp.below hW
    refine h1.block (hg3.block mb h1.lt fun e => h.off mb e.symm rfl)
  · intro x hx
    rcases List.mem_append.1 hx with hx | hx
    · exact h.sub x hx
    · rw [List.mem_singleton.1 hx]
      exact hy
  · rw [List.map_append]
    refine List.nodup_append.2 ⟨h.nd, by simp, fun a ha c hc => ?_⟩
    rw [List.map_cons, List.map_nil, List.mem_singleton] at hc
    subst hc
    exact fun e => hn (e ▸ ha)
  · have b1 := below_grown h.below hg hbase fun k hk => by cases hk; exact h.hmb
    have b2 := b1.trans (hW.mono (by omega))
    exact below_grown b2 hg3 (by omega) hv
end
end Go.Proofs.YtplchhahjmoodaaGreatDoor
