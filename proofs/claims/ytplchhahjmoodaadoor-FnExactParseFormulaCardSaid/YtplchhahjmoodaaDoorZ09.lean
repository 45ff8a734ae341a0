/-
  The law's comparison of two formulas: true where both hold the same.
-/
import Derived.Deep.RegionHeld3
import Derived.Test.YtplchhahjmoodaaDoorZ08
import Derived.Test.YtplchhahjmoodaaDoorZ07
namespace Go.Proofs.YtplchhahjmoodaaDoor
open Go Go.RowKit

/-- The cells of a node, in a world; the two ways to say it. -/
def Five (w : World) (b o : Nat) (x : Ft) : Prop := w.cell? ⟨b, o, none⟩ = some (.int .i64 x.kd) ∧ w.cell? ⟨b, o + 1, none⟩ = some (.int .i64 x.k) ∧ w.cell? ⟨b, o + 2, none⟩ = some (.int .i64 x.u) ∧ w.cell? ⟨b, o + 3, none⟩ = some (.int .i64 x.v) ∧ w.cell? ⟨b, o + 4, none⟩ = some (.slice x.a x.args.length x.cap)
theorem er_len {x y : Ft} (h : x.er = y.er) : x.args.length = y.args.length := by
  have := congrArg (fun t => (Fm.args t).length) h
  simpa [Ft.er_args] using this
theorem er_num {x y : Ft} (h : x.er = y.er) : x.kd = y.kd ∧ x.k = y.k ∧ x.u = y.u ∧ x.v = y.v := by
  rw [Ft.er_eq, Ft.er_eq] at h
  injection h with h1 h2 h3 h4 _
  exact ⟨h1, h2, h3, h4⟩
theorem er_part {x y : Ft} (h : x.er = y.er) (k : Nat) (hk : k < x.args.length) (hk' : k < y.args.length) : (x.args[k]).er = (y.args[k]).er := by
  have h1 : x.args.map Ft.er = y.args.map Ft.er := by rw [← Ft.er_args, ← Ft.er_args, h]
  have := congrArg (fun l => l[k]?) h1
  simpa [hk, hk'] using this

set_option maxHeartbeats 800000 in
theorem eqRowT (ts us : List Ft) (a b : Option Addr) (ca cb : Nat) (w : World) (hn : ts.length ≤ maxLen) (hlen : ts.length = us.length) (ha : Row w w.heap.size a (fmVals ts)) (hb : Row w w.heap.size b (fmVals us))
    (ih : ∀ (k : Nat) (h : k < ts.length) (h' : k < us.length) (W : World), Below w.heap.size w W → Calls Tryd.prog 9 #[(ts[k]).val, (us[k]).val] W (GaveB (.bool true) W)) :
    Calls Tryd.prog 23 #[.slice a ts.length ca, .slice b us.length cb] w (GaveB (.bool true) w) := by
  unfold maxLen at hn
  have IH := Lib.hid ih
  clear ih
  rw [← hlen]
  have HL := Lib.hid hlen
  clear hlen
  go_enter Tryd.func23, Tryd.ntmps23
  go_wp2_with fail
  go_loopw [5] (fun i wr => ∃ k : Nat, k ≤ ts.length ∧ i = .int .i64 k ∧ Below w.heap.size w wr) (fun i _ => ts.length - (intOf i).toNat)
  case atStart => exact ⟨0, Nat.zero_le _, rfl, Below.refl _ _⟩
  case round =>
    obtain ⟨k, hk, rfl, hbw⟩ := hrel
    by_cases hlt : k < ts.length
    · have hlt' : k < us.length := by have := HL.out; omega
      obtain ⟨ba, oa, rfl, hba, hEa⟩ := ha.node k hlt
      obtain ⟨bb, ob, rfl, hbb, hEb⟩ := hb.node k hlt'
      have hI := IH.out k hlt hlt'
      obtain ⟨c0, c1, c2, c3, c4⟩ := hEa.below hbw hba
      obtain ⟨d0, d1, d2, d3, d4⟩ := hEb.below hbw hbb
      generalize ts[k] = x at *
      generalize us[k] = y at *
      have HI := Lib.hid hI
      have hS : ∀ w', Below w.heap.size w w' → (w'.cell? ⟨ba, oa + k * 5, none⟩ = some (.int .i64 x.kd) ∧ w'.cell? ⟨ba, oa + k * 5 + 1, none⟩ = some (.int .i64 x.k) ∧ w'.cell? ⟨ba, oa + k * 5 + 2, none⟩ = some (.int .i64 x.u) ∧ w'.cell? ⟨ba, oa + k * 5 + 3, none⟩ = some (.int .i64 x.v) ∧ w'.cell? ⟨ba, oa + k * 5 + 4, none⟩ = some (.slice x.a x.args.length x.cap)) ∧
          (w'.cell? ⟨bb, ob + k * 5, none⟩ = some (.int .i64 y.kd) ∧ w'.cell? ⟨bb, ob + k * 5 + 1, none⟩ = some (.int .i64 y.k) ∧ w'.cell? ⟨bb, ob + k * 5 + 2, none⟩ = some (.int .i64 y.u) ∧ w'.cell? ⟨bb, ob + k * 5 + 3, none⟩ = some (.int .i64 y.v) ∧ w'.cell? ⟨bb, ob + k * 5 + 4, none⟩ = some (.slice y.a y.args.length y.cap)) ∧ Below w.heap.size w w' :=
        fun w' h => ⟨⟨(hEa.below h hba).kd, (hEa.below h hba).k, (hEa.below h hba).u, (hEa.below h hba).v, (hEa.below h hba).s⟩, ⟨(hEb.below h hbb).kd, (hEb.below h hbb).k, (hEb.below h hbb).u, (hEb.below h hbb).v, (hEb.below h hbb).s⟩, h⟩
      clear hEa hEb c0 c1 c2 c3 c4 d0 d1 d2 d3 d4 hI
      go_wp2_with fail
      go_region_held3 (fun w' => (w'.cell? ⟨ba, oa + k * 5, none⟩ = some (.int .i64 x.kd) ∧ w'.cell? ⟨ba, oa + k * 5 + 1, none⟩ = some (.int .i64 x.k) ∧ w'.cell? ⟨ba, oa + k * 5 + 2, none⟩ = some (.int .i64 x.u) ∧ w'.cell? ⟨ba, oa + k * 5 + 3, none⟩ = some (.int .i64 x.v) ∧ w'.cell? ⟨ba, oa + k * 5 + 4, none⟩ = some (.slice x.a x.args.length x.cap)) ∧
          (w'.cell? ⟨bb, ob + k * 5, none⟩ = some (.int .i64 y.kd) ∧ w'.cell? ⟨bb, ob + k * 5 + 1, none⟩ = some (.int .i64 y.k) ∧ w'.cell? ⟨bb, ob + k * 5 + 2, none⟩ = some (.int .i64 y.u) ∧ w'.cell? ⟨bb, ob + k * 5 + 3, none⟩ = some (.int .i64 y.v) ∧ w'.cell? ⟨bb, ob + k * 5 + 4, none⟩ = some (.slice y.a y.args.length y.cap)) ∧ Below w.heap.size w w')
        (first | assumption | exact hS _ (Below.drew hbw) | exact hS _ hB)
        (first | (go_at_call 9; refine (HI.out _ (Below.drew hbw)).mono ?_; rintro e w1 ⟨rfl, hb1⟩; have hB := (Below.drew hbw).trans (hb1.mono (Below.drew hbw).size)))
      clear hS
      go_wp2_with fail
      go_roundw
      case rel => exact ⟨k + 1, by omega, by go_num, hB⟩
      case measure => simp [intOf]; omega
    · go_wp2_with fail
      go_ret
      exact ⟨rfl, hbw⟩

set_option maxHeartbeats 800000 in
theorem eqTree : ∀ x : Ft, ∀ y : Ft, x.er = y.er → ∀ (w : World), x.Short → x.In w w.heap.size → y.In w w.heap.size → Calls Tryd.prog 9 #[x.val, y.val] w (GaveB (.bool true) w) := by
  apply Ft.ind
  intro x ih y he w hs hx hy
  have hs' := (Ft.short_iff x).1 hs
  obtain ⟨n1, n2, n3, n4⟩ := er_num he
  have HR := Lib.hid (fun (W : World) (h : Below w.heap.size w W) => eqRowT x.args y.args x.a y.a x.cap y.cap W hs'.1 (er_len he) ((hx.to h).row) ((hy.to h).row) (fun k hk hk' W' hb' => ih x.args[k] (List.getElem_mem hk) y.args[k] (er_part he k hk hk') W' (hs'.2 _ (List.getElem_mem hk)) (((hx.to h).part (List.getElem_mem hk)).to hb') (((hy.to h).part (List.getElem_mem hk')).to hb')))
  clear ih hs hs' hx hy he
  unfold Ft.val
  rw [← n1, ← n2, ← n3, ← n4]
  clear n1 n2 n3 n4
  go_enter Tryd.func9, Tryd.ntmps9
  go_wp2_with fail
  have hb0 : ∀ u v t t', Below w.heap.size w ((w.alloc (.cells u t)).alloc (.cells v t')) := fun u v t t' => ((Below.refl _ _).alloc (Nat.le_refl _) _).alloc (by simp) _
  refine (HR.out _ (hb0 _ _ _ _)).mono ?_
  rintro e w1 ⟨rfl, hb1⟩
  have hB := (hb0 _ _ _ _).trans (hb1.mono (hb0 _ _ _ _).size)
  go_wp2_with fail
  go_ret
  exact ⟨rfl, hB⟩
end Go.Proofs.YtplchhahjmoodaaDoor
