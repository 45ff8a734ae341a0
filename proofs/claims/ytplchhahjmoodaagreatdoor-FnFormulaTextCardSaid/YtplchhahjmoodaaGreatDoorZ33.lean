/-
  The program's walk over pairs of nodes.
-/
import Derived.Test.YtplchhahjmoodaaGreatDoorZ31
namespace Go.Proofs.YtplchhahjmoodaaGreatDoor
open Go Go.RowKit Go.ChangeAt Go.ChangeShapes Go.WideShapes

theorem enter_inner (args : Array Value) (W : World) : (callFunc 39 args).run Tryz.prog W = .ok (.enter 39 args) W := Go.MuLone.run_callFunc_enter (P := Tryz.prog) Tryz.func39 (by kernel_rfl) rfl args W
/-- The blocks in which the nodes of pairs stand. -/
def blocksT (U : List Tw) (b : Nat) : Prop := ∃ x ∈ U, x.1.1.block = b ∨ x.2.1.block = b
theorem tw_inj {l : List Tw} {y : Tw} (h : twV y ∈ l.map twV) : twAddr y ∈ l.map twAddr := by
  obtain ⟨x, hx, e⟩ := List.mem_map.1 h
  injection e with e
  injection e with e
  simp only [List.cons.injEq, Value.pointer.injEq, Option.some.injEq, and_true] at e
  exact List.mem_map.2 ⟨x, hx, by rw [twAddr, twAddr, e.1, e.2]⟩
/-- What the pairs reached are: each once, closed under parts. -/
structure MetT (U : List Tw) (r : Tw) (L : List Tw) : Prop where
  sub : ∀ x ∈ L, x ∈ U
  nd : (L.map twAddr).Nodup
  first : r ∈ L
  closed : ∀ x ∈ L, ∀ y ∈ stepsT x, y ∈ L
structure GroundT (U : List Tw) (w : World) : Prop where
  ok1 : ∀ x ∈ U, LocOk w w.heap.size x.1
  ok2 : ∀ x ∈ U, LocOk w w.heap.size x.2
  len : ∀ x ∈ U, x.1.2.args.length ≤ 1099511627776
theorem GroundT.below {U : List Tw} {w w' : World} (h : GroundT U w) (hb : Below w.heap.size w w') : GroundT U w' := ⟨fun x hx => (h.ok1 x hx).below hb, fun x hx => (h.ok2 x hx).below hb, h.len⟩
theorem GroundT.plain {U : List Tw} {w : World} (h : GroundT U w) : AllPlain (blocksT U) w := fun b ⟨x, hx, e⟩ => by
  rcases e with rfl | rfl
  · exact (h.ok1 x hx).plain
  · exact (h.ok2 x hx).plain
abbrev RST (base mb : Nat) (U : List Tw) (r : Tw) (w0 wr : World) (v : Value) (L : List Tw) : Prop := RS twAddr twV twCells 65 2 base mb (TwOk (blocksT U)) U r w0 wr v L
theorem row2 {w : World} {base e n : Nat} {a : Option Addr} {c : Nat} {xs : List Value} (h : w.ownsRow base e 2 (.slice a n c) n xs) : Row w w.heap.size a xs := by
  intro k x hx
  rcases h.2 with ⟨hv, hn⟩ | ⟨g, cap, cur, hv, _, hg, _⟩
  · have hl := h.1
    rw [hn] at hl
    have : xs = [] := List.eq_nil_of_length_eq_zero (by simpa using hl)
    rw [this] at hx
    simp at hx
  · injection hv with ha _ _
    subst ha
    refine ⟨g, 0, rfl, (h.lt g rfl).2, ?_⟩
    have hc := h.cells (g := g) rfl k x hx
    rw [add_plain] at hc
    exact hc
theorem Row.pair {w : World} {B : Nat} {a : Option Addr} {l : List Tw} (h : Row w B a (l.flatMap twCells)) (i : Nat) (hi : i < l.length) : ∃ b o, a = some ⟨b, o, none⟩ ∧ b < B ∧ w.cell? ⟨b, o + i * 2, none⟩ = some (.pointer (some l[i].1.1)) ∧ w.cell? ⟨b, o + i * 2 + 1, none⟩ = some (.pointer (some l[i].2.1)) := by
  obtain ⟨h0, h1⟩ := tw_flat_at l i hi
  obtain ⟨b, o, rfl, hb, hc⟩ := h _ _ h0
  obtain ⟨b', o', e, _, hc'⟩ := h _ _ h1
  injection e with e
  injection e with e1 e2 _
  subst e1 e2
  exact ⟨b, o, rfl, hb, hc, by rw [Nat.add_assoc]; exact hc'⟩

set_option maxRecDepth 100000 in
set_option maxHeartbeats 3200000 in
theorem implReachedT (U : List Tw) (r : Tw) (w : World) (hr : r ∈ U) (hc : ∀ x ∈ U, ∀ y ∈ stepsT x, y ∈ U) (hnd : (U.map twAddr).Nodup) (hG : GroundT U w) (hU : U.length ≤ 1099511627776) :
    Calls Tryz.prog 38 #[twV r, .func (.func 39) #[] #[]] w (fun e w' => ∃ L a cap, MetT U r L ∧ e = .returned (.slice a L.length cap) ∧ w'.ownsRow w.heap.size 65 2 (.slice a L.length cap) L.length (L.flatMap twCells) ∧ Below w.heap.size w w') := by
  obtain ⟨i0, hi, hz0, hz1, hz2⟩ := info_parts twInfo
  have hmm := @run_makeMap Tryz.prog
  have HE := Lib.hid enter_inner
  -- the first store into the map
  obtain ⟨W0, hW0⟩ : ∃ W, w.alloc (.cells #[.pointer (some r.1.1), .pointer (some r.2.1)] 65) = W := ⟨_, rfl⟩
  have hb0 : Below w.heap.size w W0 := by rw [← hW0]; exact (Below.refl _ _).alloc (Nat.le_refl _) _
  have hs0 : W0.heap.size = w.heap.size + 1 := by rw [← hW0]; simp
  have c0 : W0.cell? ⟨w.heap.size, 0, none⟩ = some (.pointer (some r.1.1)) := by rw [← hW0]; simp [go_sem]
  have c1 : W0.cell? ⟨w.heap.size, 1, none⟩ = some (.pointer (some r.2.1)) := by rw [← hW0]; simp [go_sem]
  obtain ⟨W1, hW1⟩ : ∃ W, (W0.alloc (.cells #[.pointer (some r.1.1), .pointer (some r.2.1)] 65)).alloc (.map #[] 0) = W := ⟨_, rfl⟩
  have hb1 : Below W0.heap.size W0 W1 := by rw [← hW1]; exact ((Below.refl _ _).alloc (Nat.le_refl _) _).alloc (by simp) _
  have hpm1 : PM W1 (W0.heap.size + 1) (TwOk (blocksT U)) [] (.bool true) := by
    have := PM.made (W0.alloc (.cells #[.pointer (some r.1.1), .pointer (some r.2.1)] 65)) (TwOk (blocksT U)) (.bool true)
    rw [hW1] at this
    simpa using this
  have c2 : W1.cell? ⟨w.heap.size, 0, none⟩ = some (.pointer (some r.1.1)) := (hb1.cell (p := ⟨w.heap.size, 0, none⟩) (by show w.heap.size < _; omega)).trans c0
  have c3 : W1.cell? ⟨w.heap.size, 1, none⟩ = some (.pointer (some r.2.1)) := (hb1.cell (p := ⟨w.heap.size, 1, none⟩) (by show w.heap.size < _; omega)).trans c1
  have hok : TwOk (blocksT U) (twV r) := ⟨_, _, rfl, ⟨r, hr, .inl rfl⟩, ⟨r, hr, .inr rfl⟩⟩
  obtain ⟨W2, hrun2, hpm2, hg2⟩ := hpm1.store (tw_key (blocksT U)) ((hG.below hb0).below hb1).plain Tryz.underlying125 hok (by simp)
  have hs1 : W1.heap.size = W0.heap.size + 2 := by rw [← hW1]; simp
  have hrs : RST W0.heap.size (W0.heap.size + 1) U r W0 W2 (.slice (some ⟨W0.heap.size, 0, none⟩) 1 1) [r] := by
    have ho : W1.ownsRow W0.heap.size 65 2 (.slice (some ⟨W0.heap.size, 0, none⟩) 1 1) 1 (twCells r) := by
      rw [← hW1]
      exact own_keeps (rc_lit (sz := 2) (twCells r) rfl (Nat.le_refl _)) ((Below.refl _ _).alloc (Nat.le_refl _) _)
    refine ⟨by simpa using rc_other ho hg2 (fun k hk e => by have h1 : W0.heap.size = k := Option.some.inj hk; have := Option.some.inj e; omega), fun k hk => by have h1 : W0.heap.size = k := Option.some.inj hk; omega, hpm2, by simpa using hr, by simp, below_grown hb1 hg2 (by omega) (fun k hk => by cases hk; omega), by simp, by omega⟩
  have hs2 : W0.heap.size + 2 ≤ W2.heap.size := by have := hg2.size; omega
  have HRS := Lib.hid hrs
  have HG := Lib.hid (hG.below hb0)
  have HC := Lib.hid hc
  have HND := Lib.hid hnd
  have HS2 := Lib.hid hs2
  have HB0 := Lib.hid hb0
  have HS0 := Lib.hid hs0
  unfold twV at hrun2 ⊢
  clear hrs hpm1 hpm2 hg2 hok hb1 hG hc hnd hr hs1 hs2 hb0 hs0
  go_enter Tryz.func38, Tryz.ntmps38
  go_wp2_with fail
  clear hW0 hW1 hrun2 c0 c1 c2 c3
  go_loopw [5, 7] (fun v i wr => ∃ (k : Nat) (L : List Tw), k ≤ L.length ∧ i = .int .i64 k ∧ RST W0.heap.size (W0.heap.size + 1) U r W0 wr v L ∧ (∀ x ∈ L.take k, ∀ y ∈ stepsT x, y ∈ L)) (fun _ i _ => U.length - (intOf i).toNat)
  case atStart => exact ⟨0, [r], by simp, rfl, HRS.out, by simp⟩
  case round =>
    obtain ⟨k, L, hk, rfl, hrs, hcl⟩ := hrel
    have hle := hrs.le
    have hmbs := hrs.pm.lt
    obtain ⟨va, vc, rfl, _⟩ := rc_shape hrs.own
    have hrow := row2 hrs.own
    by_cases hlt : k < L.length
    · obtain ⟨b, o, hva, hbW, hcell0, hcell1⟩ := hrow.pair k hlt
      have hxL : L[k] ∈ L := List.getElem_mem hlt
      have htk := take_next L k hlt
      generalize L[k] = x at *
      have hxU := hrs.sub x hxL
      have hG' := HG.out.below hrs.below
      have hxok1 := hG'.ok1 x hxU
      have hxok2 := hG'.ok2 x hxU
      have hxlen := hG'.len x hxU
      have HRS1 := Lib.hid hrs
      have HCL := Lib.hid hcl
      have HTK := Lib.hid htk
      have HXU := Lib.hid hxU
      have HVA := Lib.hid hva
      have hE := HE.out
      subst hva
      clear hrs hcl htk hG' hrow hxL
      go_wp2_with fail
      refine (implInner x _ hxok1 hxok2 hxlen).mono ?_
      rintro e w1 ⟨a2, c2, rfl, hown2, hb2⟩
      have hrs1 := HRS1.out.keeps hb2 (by omega)
      have hzb2 := hb2.size
      have hnk : (stepsT x).length ≤ 1099511627776 := by
        unfold stepsT
        split
        · rw [List.length_zip, kids_length]
          omega
        · exact Nat.zero_le _
      obtain ⟨n, hn⟩ : ∃ n, (stepsT x).length = n := ⟨_, rfl⟩
      rw [hn] at hown2 hnk ⊢
      have Hown2 := Lib.hid hown2
      have Hrs1 := Lib.hid hrs1
      have HN := Lib.hid hn
      have hgap : ∀ g, (Value.slice (some ⟨b, o, none⟩) L.length vc).ownBlock = some g → ∀ g2, (Value.slice a2 n c2).ownBlock = some g2 → g ≠ g2 := fun g h1 g2 h2 => by
        have e1 := (HRS1.out.own.lt g h1).2
        have e2 := (hown2.lt g2 h2).1
        omega
      have Hgap := Lib.hid hgap
      clear hown2 hrs1 hn hgap hcell0 hcell1 hxok1 hxok2 hE
      go_wp2_with fail
      go_loopw [5, 28] (fun v' i wr' => ∃ (m : Nat) (L' : List Tw), m ≤ n ∧ i = .int .i64 m ∧ RST W0.heap.size (W0.heap.size + 1) U r W0 wr' v' L' ∧ (∃ q, L' = L ++ q) ∧ (∀ y ∈ (stepsT x).take m, y ∈ L') ∧ wr'.ownsRow wr.heap.size 65 2 (.slice a2 n c2) n ((stepsT x).flatMap twCells) ∧
          (∀ g, v'.ownBlock = some g → ∀ g2, (Value.slice a2 n c2).ownBlock = some g2 → g ≠ g2) ∧ wr.heap.size ≤ wr'.heap.size) (fun _ i _ => n - (intOf i).toNat)
      case atStart => exact ⟨0, L, Nat.zero_le _, rfl, Hrs1.out, ⟨[], by simp⟩, by simp, Hown2.out, Hgap.out, hzb2⟩
      case round =>
        obtain ⟨m, L', hm, rfl, hrs', hq, hin, hown2', hgap', hz'⟩ := hrel
        have hle' := hrs'.le
        obtain ⟨va', vc', rfl, _⟩ := rc_shape hrs'.own
        by_cases hlt' : m < n
        · have hlk : m < (stepsT x).length := by rw [HN.out]; exact hlt'
          obtain ⟨b', o', ha2, hb', hcell0', hcell1'⟩ := (row2 hown2').pair m hlk
          have hyk : (stepsT x)[m] ∈ stepsT x := List.getElem_mem hlk
          have hyt := take_next (stepsT x) m hlk
          generalize (stepsT x)[m] = y at *
          have hyU := HC.out x HXU.out y hyk
          have hbA : Below wr.heap.size wr (wr.alloc (.cells #[.pointer (some y.1.1), .pointer (some y.2.1)] 65)) := (Below.refl _ _).alloc (Nat.le_refl _) _
          obtain ⟨WA, hWA⟩ : ∃ W, wr.alloc (.cells #[.pointer (some y.1.1), .pointer (some y.2.1)] 65) = W := ⟨_, rfl⟩
          have a0 : WA.cell? ⟨wr.heap.size, 0, none⟩ = some (.pointer (some y.1.1)) := by rw [← hWA]; simp [go_sem]
          have a1 : WA.cell? ⟨wr.heap.size, 1, none⟩ = some (.pointer (some y.2.1)) := by rw [← hWA]; simp [go_sem]
          have hsA : WA.heap.size = wr.heap.size + 1 := by rw [← hWA]; simp
          rw [hWA] at hbA
          have hrsA := hrs'.keeps hbA hrs'.below.size
          have hownA := own_keeps hown2' hbA
          have hG2 := HG.out.below hrsA.below
          have hyin : twAddr y ∈ L'.map twAddr → y ∈ L' := fun h => by
            obtain ⟨z, hz, e⟩ := List.mem_map.1 h
            have := map_inj_on HND.out (hrs'.sub z hz) hyU e
            rw [← this]
            exact hz
          have hyok : TwOk (blocksT U) (twV y) := ⟨_, _, rfl, ⟨y, hyU, .inl rfl⟩, ⟨y, hyU, .inr rfl⟩⟩
          have HIN := Lib.hid hin
          have HYT := Lib.hid hyt
          have HQ := Lib.hid hq
          have HGP := Lib.hid hgap'
          have HHA := Lib.hid ha2
          have HRSA := Lib.hid hrsA
          have HOA := Lib.hid hownA
          have hmbw := hrs'.pm.lt
          have hbsz := hrs'.below.size
          by_cases hy : twAddr y ∈ L'.map twAddr
          · have hyL := hyin hy
            have hl := hrsA.pm.hit (tw_key (blocksT U)) hG2.plain Tryz.underlying125 (List.mem_map.2 ⟨y, hyL, rfl⟩)
            unfold twV at hl
            have HYL := Lib.hid hyL
            subst ha2
            clear hrs' hin hyt hq hown2' hgap' hy hyL hyin hyok hG2 hrsA hownA hbA
            go_wp2_with fail
            clear hWA
            go_roundw
            case rel =>
              refine ⟨m + 1, L', by omega, by go_num, HRSA.out, HQ.out, fun z hz => ?_, HOA.out, HGP.out, by omega⟩
              rw [HYT.out] at hz
              rcases List.mem_append.1 hz with hz | hz
              · exact HIN.out z hz
              · rw [List.mem_singleton.1 hz]
                exact HYL.out
            case measure => simp [intOf]; omega
          · have hny : twV y ∉ L'.map twV := fun h => hy (tw_inj h)
            have hl := hrsA.pm.miss (tw_key (blocksT U)) hG2.plain Tryz.underlying125 hyok hny (zero_bool _)
            obtain ⟨w4, hst, hp4, hg4⟩ := hrsA.pm.store (tw_key (blocksT U)) hG2.plain Tryz.underlying125 hyok hny
            unfold twV at hl hst
            have hno := hrsA.noted hg4
            have hz4 := hg4.size
            have d0 : w4.cell? ⟨wr.heap.size, 0, none⟩ = some (.pointer (some y.1.1)) := by rw [← a0]; exact World.cell?_of_block (hg4.block wr.heap.size (by omega) (fun e => by have h1 : wr.heap.size = W0.heap.size + 1 := Option.some.inj e; omega))
            have d1 : w4.cell? ⟨wr.heap.size, 1, none⟩ = some (.pointer (some y.2.1)) := by rw [← a1]; exact World.cell?_of_block (hg4.block wr.heap.size (by omega) (fun e => by have h1 : wr.heap.size = W0.heap.size + 1 := Option.some.inj e; omega))
            have HNO := Lib.hid hno
            have HP4 := Lib.hid hp4
            have HG4 := Lib.hid hg4
            have HY := Lib.hid hy
            have HYU := Lib.hid hyU
            subst ha2
            clear hrs' hin hyt hq hown2' hgap' hy hyin hyok hG2 hny hno hp4 hg4 hrsA hownA hbA
            go_wp2_with (at_builtin; refine wpList_append_own_at _ rfl (.tmp 38) (.tmp 40) 61 rfl W0.heap.size 65 i0 (.agg #[.pointer none, .pointer none]) 2 16 Tryz.underlying61 hi hz0 hz1 hz2 rfl (by decide) _ L'.length _ rfl (HNO.out.alloc _) ⟨w4.heap.size, 0, none⟩ 1 1 [.pointer (some y.1.1), .pointer (some y.2.1)] rfl rfl (tw_news _ _ _ _) (tw_one _ _) (by unfold maxLen; omega) (by omega) (by simp; omega) ?_; intro v5 w5 hown5 hg5 _ hloc5)
            clear hWA
            have hb45 : Below w4.heap.size w4 (w4.alloc (.cells #[.pointer (some y.1.1), .pointer (some y.2.1)] 65)) := (Below.refl _ _).alloc (Nat.le_refl _) _
            have HRS5 := Lib.hid (HRSA.out.added (y := y) (by omega) HYU.out HY.out HP4.out HG4.out hb45 (fun k hk => (HRSA.out.own.lt k hk).1) hown5 hg5 hloc5)
            have hz5 := hg5.size
            simp at hz5
            have HO5 := Lib.hid (rc_other (own_keeps (rc_other HOA.out HG4.out (fun k hk e => by have h1 := (HOA.out.lt k hk).1; have h2 := Option.some.inj e; omega)) hb45) hg5 (fun k hk e => HGP.out k e k hk rfl))
            have HG5 := Lib.hid (show ∀ g, v5.ownBlock = some g → ∀ g2, (Value.slice (some ⟨b', o', none⟩) n c2).ownBlock = some g2 → g ≠ g2 from fun g h1 g2 h2 => by
              rcases hloc5 with e | e
              · exact HGP.out g (e ▸ h1) g2 h2
              · rw [e] at h1
                have h3 := Option.some.inj h1
                have h4 := (HOA.out.lt g2 h2).2
                simp at h3
                omega)
            clear hown5 hg5 hloc5
            go_wp2_with fail
            go_roundw
            case rel =>
              refine ⟨m + 1, L' ++ [y], by omega, by go_num, HRS5.out, ?_, fun z hz => ?_, HO5.out, HG5.out, by omega⟩
              · obtain ⟨q, hq⟩ := HQ.out
                exact ⟨q ++ [y], by rw [hq]; simp⟩
              · rw [HYT.out] at hz
                rcases List.mem_append.1 hz with hz | hz
                · exact List.mem_append_left _ (HIN.out z hz)
                · exact List.mem_append_right _ hz
            case measure => simp [intOf]; omega
        · obtain rfl : m = n := by omega
          have HRS2 := Lib.hid hrs'
          have HIN := Lib.hid hin
          have HQ := Lib.hid hq
          clear hrs' hin hq hown2' hgap'
          go_wp2_with fail
          go_roundw
          case rel =>
            have hin' := HIN.out
            rw [← HN.out, List.take_length] at hin'
            obtain ⟨q, hq⟩ := HQ.out
            refine ⟨k + 1, L', by rw [hq]; simp; omega, by go_num, HRS2.out, fun z hz y hy => ?_⟩
            rw [hq, List.take_append_of_le_length (by omega), HTK.out] at hz
            rcases List.mem_append.1 hz with hz | hz
            · rw [hq]
              exact List.mem_append_left _ (HCL.out z hz y hy)
            · rw [List.mem_singleton.1 hz] at hy
              exact hin' y hy
          case measure => simp [intOf]; omega
    · obtain rfl : k = L.length := by omega
      have HRS1 := Lib.hid hrs
      have HCL := Lib.hid hcl
      clear hrs hcl hrow
      go_wp2_with fail
      go_ret
      have hcl := HCL.out
      rw [List.take_length] at hcl
      have hs0 := HS0.out
      exact ⟨L, va, vc, ⟨HRS1.out.sub, HRS1.out.nd, HRS1.out.first, hcl⟩, rfl, own_base HRS1.out.own (by omega), HB0.out.trans (HRS1.out.below.mono (by omega))⟩
end Go.Proofs.YtplchhahjmoodaaGreatDoor
