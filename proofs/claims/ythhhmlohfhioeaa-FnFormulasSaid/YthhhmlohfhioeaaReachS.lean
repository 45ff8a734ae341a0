/-
  The program's walk over nodes with what is bound around them.
-/
import Derived.Test.YthhhmlohfhioeaaScopeInner
import Derived.Conc.MuLone
namespace Go.Proofs.Ythhhmlohfhioeaa
open Go Go.RowKit Go.ChangeAt Go.ChangeShapes Go.WideShapes

theorem enter_innerS (args : Array Value) (W : World) : (callFunc 46 args).run Try.prog W = .ok (.enter 46 args) W := Go.MuLone.run_callFunc_enter (P := Try.prog) Try.func46 (by kernel_rfl) rfl args W
/-- The blocks in which the nodes of pairs stand. -/
def blocksS (U : List Sc) (b : Nat) : Prop := ∃ x ∈ U, x.1.1.block = b
theorem sc_inj {l : List Sc} {y : Sc} (h : scV y ∈ l.map scV) : scAddr y ∈ l.map scAddr := by
  obtain ⟨x, hx, e⟩ := List.mem_map.1 h
  injection e with e
  injection e with e
  simp only [List.cons.injEq, Value.pointer.injEq, Value.bool.injEq, Option.some.injEq, and_true] at e
  obtain ⟨e0, e1, e2, e3, e4⟩ := e
  have eb : x.2 = y.2 := by
    obtain ⟨_, ⟨_, _, _, _⟩⟩ := x
    obtain ⟨_, ⟨_, _, _, _⟩⟩ := y
    simp only at e1 e2 e3 e4
    rw [e1, e2, e3, e4]
  exact List.mem_map.2 ⟨x, hx, by rw [scAddr, scAddr, e0, eb]⟩
/-- What the pairs reached are: each once, closed under parts. -/
structure MetS10 (U : List Sc) (r : Sc) (L : List Sc) : Prop where
  sub : ∀ x ∈ L, x ∈ U
  nd : (L.map scAddr).Nodup
  first : r ∈ L
  closed : ∀ x ∈ L, ∀ y ∈ stepsS x, y ∈ L
structure GroundS (U : List Sc) (w : World) : Prop where
  ok1 : ∀ x ∈ U, LocOk w w.heap.size x.1
  len : ∀ x ∈ U, x.1.2.args.length ≤ 1099511627776
theorem GroundS.below {U : List Sc} {w w' : World} (h : GroundS U w) (hb : Below w.heap.size w w') : GroundS U w' := ⟨fun x hx => (h.ok1 x hx).below hb, h.len⟩
theorem GroundS.plain {U : List Sc} {w : World} (h : GroundS U w) : AllPlain (blocksS U) w := fun _ ⟨x, hx, e⟩ => e ▸ (h.ok1 x hx).plain
abbrev RSS (base mb : Nat) (U : List Sc) (r : Sc) (w0 wr : World) (v : Value) (L : List Sc) : Prop := RS scAddr scV scCells 74 5 base mb (ScOk (blocksS U)) U r w0 wr v L
theorem row5 {w : World} {base e n : Nat} {a : Option Addr} {c : Nat} {xs : List Value} (h : w.ownsRow base e 5 (.slice a n c) n xs) : Row w w.heap.size a xs := by
  intro k x hx
  rcases h.2 with ⟨hv, hn⟩ | ⟨g, cap, cur, hv, _, hg, _⟩
  · have hl := h.1
    rw [hn] at hl
    have : xs = [] := List.eq_nil_of_length_eq_zero (by simpa using hl)
    rw [this] at hx
    simp at hx
  · injection hv with ha _ _
    subst ha
    refine ⟨g, 0, rfl, (h.lt g rfl).2, ?_⟩
    have hc := h.cells (g := g) rfl k x hx
    rw [add_plain] at hc
    exact hc

set_option maxRecDepth 100000 in
set_option maxHeartbeats 3200000 in
theorem implReachedS (U : List Sc) (r : Sc) (w : World) (hr : r ∈ U) (hc : ∀ x ∈ U, ∀ y ∈ stepsS x, y ∈ U) (hnd : (U.map scAddr).Nodup) (hG : GroundS U w) (hU : U.length ≤ 1099511627776) :
    Calls Try.prog 45 #[scV r, .func (.func 46) #[] #[]] w (fun e w' => ∃ L a cap, MetS10 U r L ∧ e = .returned (.slice a L.length cap) ∧ w'.ownsRow w.heap.size 74 5 (.slice a L.length cap) L.length (L.flatMap scCells) ∧ Below w.heap.size w w') := by
  obtain ⟨i0, hi, hz0, hz1, hz2⟩ := info_parts scInfo
  have hmm := @run_makeMap Try.prog
  have HE := Lib.hid enter_innerS
  -- the first store into the map
  obtain ⟨W0, hW0⟩ : ∃ W, w.alloc (.cells #[.pointer (some r.1.1), .bool r.2.a, .bool r.2.b, .bool r.2.c, .bool r.2.d] 74) = W := ⟨_, rfl⟩
  have hb0 : Below w.heap.size w W0 := by rw [← hW0]; exact (Below.refl _ _).alloc (Nat.le_refl _) _
  have hs0 : W0.heap.size = w.heap.size + 1 := by rw [← hW0]; simp
  have c0 : W0.cell? ⟨w.heap.size, 0, none⟩ = some (.pointer (some r.1.1)) := by rw [← hW0]; simp [go_sem]
  have c1 : W0.cell? ⟨w.heap.size, 1, none⟩ = some (.bool r.2.a) := by rw [← hW0]; simp [go_sem]
  have c2 : W0.cell? ⟨w.heap.size, 2, none⟩ = some (.bool r.2.b) := by rw [← hW0]; simp [go_sem]
  have c3 : W0.cell? ⟨w.heap.size, 3, none⟩ = some (.bool r.2.c) := by rw [← hW0]; simp [go_sem]
  have c4 : W0.cell? ⟨w.heap.size, 4, none⟩ = some (.bool r.2.d) := by rw [← hW0]; simp [go_sem]
  obtain ⟨W1, hW1⟩ : ∃ W, (W0.alloc (.cells #[.pointer (some r.1.1), .bool r.2.a, .bool r.2.b, .bool r.2.c, .bool r.2.d] 74)).alloc (.map #[] 0) = W := ⟨_, rfl⟩
  have hb1 : Below W0.heap.size W0 W1 := by rw [← hW1]; exact ((Below.refl _ _).alloc (Nat.le_refl _) _).alloc (by simp) _
  have hpm1 : PM W1 (W0.heap.size + 1) (ScOk (blocksS U)) [] (.bool true) := by
    have := PM.made (W0.alloc (.cells #[.pointer (some r.1.1), .bool r.2.a, .bool r.2.b, .bool r.2.c, .bool r.2.d] 74)) (ScOk (blocksS U)) (.bool true)
    rw [hW1] at this
    simpa using this
  have cc0 : W1.cell? ⟨w.heap.size, 0, none⟩ = some (.pointer (some r.1.1)) := (hb1.cell (p := ⟨w.heap.size, 0, none⟩) (by show w.heap.size < _; omega)).trans c0
  have cc1 : W1.cell? ⟨w.heap.size, 1, none⟩ = some (.bool r.2.a) := (hb1.cell (p := ⟨w.heap.size, 1, none⟩) (by show w.heap.size < _; omega)).trans c1
  have cc2 : W1.cell? ⟨w.heap.size, 2, none⟩ = some (.bool r.2.b) := (hb1.cell (p := ⟨w.heap.size, 2, none⟩) (by show w.heap.size < _; omega)).trans c2
  have cc3 : W1.cell? ⟨w.heap.size, 3, none⟩ = some (.bool r.2.c) := (hb1.cell (p := ⟨w.heap.size, 3, none⟩) (by show w.heap.size < _; omega)).trans c3
  have cc4 : W1.cell? ⟨w.heap.size, 4, none⟩ = some (.bool r.2.d) := (hb1.cell (p := ⟨w.heap.size, 4, none⟩) (by show w.heap.size < _; omega)).trans c4
  have hok : ScOk (blocksS U) (scV r) := ⟨_, _, _, _, _, rfl, r, hr, rfl⟩
  obtain ⟨W2, hrun2, hpm2, hg2⟩ := hpm1.store (sc_key (blocksS U)) ((hG.below hb0).below hb1).plain Try.underlying117 hok (by simp)
  have hs1 : W1.heap.size = W0.heap.size + 2 := by rw [← hW1]; simp
  have hrs : RSS W0.heap.size (W0.heap.size + 1) U r W0 W2 (.slice (some ⟨W0.heap.size, 0, none⟩) 1 1) [r] := by
    have ho : W1.ownsRow W0.heap.size 74 5 (.slice (some ⟨W0.heap.size, 0, none⟩) 1 1) 1 (scCells r) := by
      rw [← hW1]
      exact own_keeps (rc_lit (sz := 5) (scCells r) rfl (Nat.le_refl _)) ((Below.refl _ _).alloc (Nat.le_refl _) _)
    refine ⟨by simpa using rc_other ho hg2 (fun k hk e => by have h1 : W0.heap.size = k := Option.some.inj hk; have := Option.some.inj e; omega), fun k hk => by have h1 : W0.heap.size = k := Option.some.inj hk; omega, hpm2, by simpa using hr, by simp, below_grown hb1 hg2 (by omega) (fun k hk => by cases hk; omega), by simp, by omega⟩
  have hs2 : W0.heap.size + 2 ≤ W2.heap.size := by have := hg2.size; omega
  have HRS := Lib.hid hrs
  have HG := Lib.hid (hG.below hb0)
  have HC := Lib.hid hc
  have HND := Lib.hid hnd
  have HS2 := Lib.hid hs2
  have HB0 := Lib.hid hb0
  have HS0 := Lib.hid hs0
  unfold scV at hrun2 ⊢
  clear hrs hpm1 hpm2 hg2 hok hb1 hG hc hnd hr hs1 hs2 hb0 hs0
  go_enter Try.func45, Try.ntmps45
  go_wp2_with fail
  clear hW0 hW1 hrun2 c0 c1 c2 c3 c4 cc0 cc1 cc2 cc3 cc4
  go_loopw [5, 7] (fun v i wr => ∃ (k : Nat) (L : List Sc), k ≤ L.length ∧ i = .int .i64 k ∧ RSS W0.heap.size (W0.heap.size + 1) U r W0 wr v L ∧ (∀ x ∈ L.take k, ∀ y ∈ stepsS x, y ∈ L)) (fun _ i _ => U.length - (intOf i).toNat)
  case atStart => exact ⟨0, [r], by simp, rfl, HRS.out, by simp⟩
  case round =>
    obtain ⟨k, L, hk, rfl, hrs, hcl⟩ := hrel
    have hle := hrs.le
    have hmbs := hrs.pm.lt
    obtain ⟨va, vc, rfl, _⟩ := rc_shape hrs.own
    have hrow := row5 hrs.own
    by_cases hlt : k < L.length
    · obtain ⟨b, o, hva, hbW, hcell0, hcell1, hcell2, hcell3, hcell4⟩ := hrow.scope k hlt
      have hxL : L[k] ∈ L := List.getElem_mem hlt
      have htk := take_next L k hlt
      generalize L[k] = x at *
      have hxU := hrs.sub x hxL
      have hG' := HG.out.below hrs.below
      have hxok1 := hG'.ok1 x hxU
      have hxlen := hG'.len x hxU
      have HRS1 := Lib.hid hrs
      have HCL := Lib.hid hcl
      have HTK := Lib.hid htk
      have HXU := Lib.hid hxU
      have HVA := Lib.hid hva
      have hE := HE.out
      subst hva
      clear hrs hcl htk hG' hrow hxL
      go_wp2_with fail
      refine (implInnerS x _ hxok1 hxlen).mono ?_
      rintro e w1 ⟨a2, c2, rfl, hown2, hb2⟩
      have hrs1 := HRS1.out.keeps hb2 (by omega)
      have hzb2 := hb2.size
      have hnk : (stepsS x).length ≤ 1099511627776 := by
        rw [stepsS_length]
        exact hxlen
      obtain ⟨n, hn⟩ : ∃ n, (stepsS x).length = n := ⟨_, rfl⟩
      rw [hn] at hown2 hnk ⊢
      have Hown2 := Lib.hid hown2
      have Hrs1 := Lib.hid hrs1
      have HN := Lib.hid hn
      have hgap : ∀ g, (Value.slice (some ⟨b, o, none⟩) L.length vc).ownBlock = some g → ∀ g2, (Value.slice a2 n c2).ownBlock = some g2 → g ≠ g2 := fun g h1 g2 h2 => by
        have e1 := (HRS1.out.own.lt g h1).2
        have e2 := (hown2.lt g2 h2).1
        omega
      have Hgap := Lib.hid hgap
      clear hown2 hrs1 hn hgap hcell0 hcell1 hcell2 hcell3 hcell4 hxok1 hE
      go_wp2_with fail
      go_loopw [5, 28] (fun v' i wr' => ∃ (m : Nat) (L' : List Sc), m ≤ n ∧ i = .int .i64 m ∧ RSS W0.heap.size (W0.heap.size + 1) U r W0 wr' v' L' ∧ (∃ q, L' = L ++ q) ∧ (∀ y ∈ (stepsS x).take m, y ∈ L') ∧ wr'.ownsRow wr.heap.size 74 5 (.slice a2 n c2) n ((stepsS x).flatMap scCells) ∧
          (∀ g, v'.ownBlock = some g → ∀ g2, (Value.slice a2 n c2).ownBlock = some g2 → g ≠ g2) ∧ wr.heap.size ≤ wr'.heap.size) (fun _ i _ => n - (intOf i).toNat)
      case atStart => exact ⟨0, L, Nat.zero_le _, rfl, Hrs1.out, ⟨[], by simp⟩, by simp, Hown2.out, Hgap.out, hzb2⟩
      case round =>
        obtain ⟨m, L', hm, rfl, hrs', hq, hin, hown2', hgap', hz'⟩ := hrel
        have hle' := hrs'.le
        obtain ⟨va', vc', rfl, _⟩ := rc_shape hrs'.own
        by_cases hlt' : m < n
        · have hlk : m < (stepsS x).length := by rw [HN.out]; exact hlt'
          obtain ⟨b', o', ha2, hb', hcell0', hcell1', hcell2', hcell3', hcell4'⟩ := (row5 hown2').scope m hlk
          have hyk : (stepsS x)[m] ∈ stepsS x := List.getElem_mem hlk
          have hyt := take_next (stepsS x) m hlk
          generalize (stepsS x)[m] = y at *
          have hyU := HC.out x HXU.out y hyk
          have hbA : Below wr.heap.size wr (wr.alloc (.cells #[.pointer (some y.1.1), .bool y.2.a, .bool y.2.b, .bool y.2.c, .bool y.2.d] 74)) := (Below.refl _ _).alloc (Nat.le_refl _) _
          obtain ⟨WA, hWA⟩ : ∃ W, wr.alloc (.cells #[.pointer (some y.1.1), .bool y.2.a, .bool y.2.b, .bool y.2.c, .bool y.2.d] 74) = W := ⟨_, rfl⟩
          have a0 : WA.cell? ⟨wr.heap.size, 0, none⟩ = some (.pointer (some y.1.1)) := by rw [← hWA]; simp [go_sem]
          have a1 : WA.cell? ⟨wr.heap.size, 1, none⟩ = some (.bool y.2.a) := by rw [← hWA]; simp [go_sem]
          have a2 : WA.cell? ⟨wr.heap.size, 2, none⟩ = some (.bool y.2.b) := by rw [← hWA]; simp [go_sem]
          have a3 : WA.cell? ⟨wr.heap.size, 3, none⟩ = some (.bool y.2.c) := by rw [← hWA]; simp [go_sem]
          have a4 : WA.cell? ⟨wr.heap.size, 4, none⟩ = some (.bool y.2.d) := by rw [← hWA]; simp [go_sem]
          have hsA : WA.heap.size = wr.heap.size + 1 := by rw [← hWA]; simp
          rw [hWA] at hbA
          have hrsA := hrs'.keeps hbA hrs'.below.size
          have hownA := own_keeps hown2' hbA
          have hG2 := HG.out.below hrsA.below
          have hyin : scAddr y ∈ L'.map scAddr → y ∈ L' := fun h => by
            obtain ⟨z, hz, e⟩ := List.mem_map.1 h
            have := map_inj_on HND.out (hrs'.sub z hz) hyU e
            rw [← this]
            exact hz
          have hyok : ScOk (blocksS U) (scV y) := ⟨_, _, _, _, _, rfl, y, hyU, rfl⟩
          have HIN := Lib.hid hin
          have HYT := Lib.hid hyt
          have HQ := Lib.hid hq
          have HGP := Lib.hid hgap'
          have HHA := Lib.hid ha2
          have HRSA := Lib.hid hrsA
          have HOA := Lib.hid hownA
          have hmbw := hrs'.pm.lt
          have hbsz := hrs'.below.size
          by_cases hy : scAddr y ∈ L'.map scAddr
          · have hyL := hyin hy
            have hl := hrsA.pm.hit (sc_key (blocksS U)) hG2.plain Try.underlying117 (List.mem_map.2 ⟨y, hyL, rfl⟩)
            unfold scV at hl
            have HYL := Lib.hid hyL
            subst ha2
            clear hrs' hin hyt hq hown2' hgap' hy hyL hyin hyok hG2 hrsA hownA hbA
            go_wp2_with fail
            clear hWA
            go_roundw
            case rel =>
              refine ⟨m + 1, L', by omega, by go_num, HRSA.out, HQ.out, fun z hz => ?_, HOA.out, HGP.out, by omega⟩
              rw [HYT.out] at hz
              rcases List.mem_append.1 hz with hz | hz
              · exact HIN.out z hz
              · rw [List.mem_singleton.1 hz]
                exact HYL.out
            case measure => simp [intOf]; omega
          · have hny : scV y ∉ L'.map scV := fun h => hy (sc_inj h)
            have hl := hrsA.pm.miss (sc_key (blocksS U)) hG2.plain Try.underlying117 hyok hny (zero_bool _)
            obtain ⟨w4, hst, hp4, hg4⟩ := hrsA.pm.store (sc_key (blocksS U)) hG2.plain Try.underlying117 hyok hny
            unfold scV at hl hst
            have hno := hrsA.noted hg4
            have hz4 := hg4.size
            have d0 : w4.cell? ⟨wr.heap.size, 0, none⟩ = some (.pointer (some y.1.1)) := by rw [← a0]; exact World.cell?_of_block (hg4.block wr.heap.size (by omega) (fun e => by have h1 : wr.heap.size = W0.heap.size + 1 := Option.some.inj e; omega))
            have d1 : w4.cell? ⟨wr.heap.size, 1, none⟩ = some (.bool y.2.a) := by rw [← a1]; exact World.cell?_of_block (hg4.block wr.heap.size (by omega) (fun e => by have h1 : wr.heap.size = W0.heap.size + 1 := Option.some.inj e; omega))
            have d2 : w4.cell? ⟨wr.heap.size, 2, none⟩ = some (.bool y.2.b) := by rw [← a2]; exact World.cell?_of_block (hg4.block wr.heap.size (by omega) (fun e => by have h1 : wr.heap.size = W0.heap.size + 1 := Option.some.inj e; omega))
            have d3 : w4.cell? ⟨wr.heap.size, 3, none⟩ = some (.bool y.2.c) := by rw [← a3]; exact World.cell?_of_block (hg4.block wr.heap.size (by omega) (fun e => by have h1 : wr.heap.size = W0.heap.size + 1 := Option.some.inj e; omega))
            have d4 : w4.cell? ⟨wr.heap.size, 4, none⟩ = some (.bool y.2.d) := by rw [← a4]; exact World.cell?_of_block (hg4.block wr.heap.size (by omega) (fun e => by have h1 : wr.heap.size = W0.heap.size + 1 := Option.some.inj e; omega))
            have HNO := Lib.hid hno
            have HP4 := Lib.hid hp4
            have HG4 := Lib.hid hg4
            have HY := Lib.hid hy
            have HYU := Lib.hid hyU
            subst ha2
            clear hrs' hin hyt hq hown2' hgap' hy hyin hyok hG2 hny hno hp4 hg4 hrsA hownA hbA
            go_wp2_with (at_builtin; refine wpList_append_own_at _ rfl (.tmp 38) (.tmp 40) 71 rfl W0.heap.size 74 i0 (.agg #[.pointer none, .bool false, .bool false, .bool false, .bool false]) 5 16 Try.underlying71 hi hz0 hz1 hz2 rfl (by decide) _ L'.length _ rfl (HNO.out.alloc _) ⟨w4.heap.size, 0, none⟩ 1 1 [.pointer (some y.1.1), .bool y.2.a, .bool y.2.b, .bool y.2.c, .bool y.2.d] rfl rfl (sc_news _ _ _ _ _ _ _) (sc_one _ _ _ _ _) (by unfold maxLen; omega) (by omega) (by simp; omega) ?_; intro v5 w5 hown5 hg5 _ hloc5)
            clear hWA
            have hb45 : Below w4.heap.size w4 (w4.alloc (.cells #[.pointer (some y.1.1), .bool y.2.a, .bool y.2.b, .bool y.2.c, .bool y.2.d] 74)) := (Below.refl _ _).alloc (Nat.le_refl _) _
            have HRS5 := Lib.hid (HRSA.out.added (y := y) (by omega) HYU.out HY.out HP4.out HG4.out hb45 (fun k hk => (HRSA.out.own.lt k hk).1) hown5 hg5 hloc5)
            have hz5 := hg5.size
            simp at hz5
            have HO5 := Lib.hid (rc_other (own_keeps (rc_other HOA.out HG4.out (fun k hk e => by have h1 := (HOA.out.lt k hk).1; have h2 := Option.some.inj e; omega)) hb45) hg5 (fun k hk e => HGP.out k e k hk rfl))
            have HG5 := Lib.hid (show ∀ g, v5.ownBlock = some g → ∀ g2, (Value.slice (some ⟨b', o', none⟩) n c2).ownBlock = some g2 → g ≠ g2 from fun g h1 g2 h2 => by
              rcases hloc5 with e | e
              · exact HGP.out g (e ▸ h1) g2 h2
              · rw [e] at h1
                have h3 := Option.some.inj h1
                have h4 := (HOA.out.lt g2 h2).2
                simp at h3
                omega)
            clear hown5 hg5 hloc5
            go_wp2_with fail
            go_roundw
            case rel =>
              refine ⟨m + 1, L' ++ [y], by omega, by go_num, HRS5.out, ?_, fun z hz => ?_, HO5.out, HG5.out, by omega⟩
              · obtain ⟨q, hq⟩ := HQ.out
                exact ⟨q ++ [y], by rw [hq]; simp⟩
              · rw [HYT.out] at hz
                rcases List.mem_append.1 hz with hz | hz
                · exact List.mem_append_left _ (HIN.out z hz)
                · exact List.mem_append_right _ hz
            case measure => simp [intOf]; omega
        · obtain rfl : m = n := by omega
          have HRS2 := Lib.hid hrs'
          have HIN := Lib.hid hin
          have HQ := Lib.hid hq
          clear hrs' hin hq hown2' hgap'
          go_wp2_with fail
          go_roundw
          case rel =>
            have hin' := HIN.out
            rw [← HN.out, List.take_length] at hin'
            obtain ⟨q, hq⟩ := HQ.out
            refine ⟨k + 1, L', by rw [hq]; simp; omega, by go_num, HRS2.out, fun z hz y hy => ?_⟩
            rw [hq, List.take_append_of_le_length (by omega), HTK.out] at hz
            rcases List.mem_append.1 hz with hz | hz
            · rw [hq]
              exact List.mem_append_left _ (HCL.out z hz y hy)
            · rw [List.mem_singleton.1 hz] at hy
              exact hin' y hy
          case measure => simp [intOf]; omega
    · obtain rfl : k = L.length := by omega
      have HRS1 := Lib.hid hrs
      have HCL := Lib.hid hcl
      clear hrs hcl hrow
      go_wp2_with fail
      go_ret
      have hcl := HCL.out
      rw [List.take_length] at hcl
      have hs0 := HS0.out
      exact ⟨L, va, vc, ⟨HRS1.out.sub, HRS1.out.nd, HRS1.out.first, hcl⟩, rfl, own_base HRS1.out.own (by omega), HB0.out.trans (HRS1.out.below.mono (by omega))⟩
end Go.Proofs.Ythhhmlohfhioeaa
