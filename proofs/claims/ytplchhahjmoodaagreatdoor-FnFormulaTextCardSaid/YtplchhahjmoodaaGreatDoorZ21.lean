/-
  The program's walk over the nodes of a formula: it comes to each node once.
-/
import Derived.Conc.MuLone
import Derived.Test.YtplchhahjmoodaaGreatDoorZ19
import Derived.Test.YtplchhahjmoodaaGreatDoorZ17
namespace Go.Proofs.YtplchhahjmoodaaGreatDoor
open Go Go.RowKit Go.ChangeAt Go.ChangeShapes Go.WideShapes

theorem enter_argsOf (args : Array Value) (W : World) : (callFunc 74 args).run Tryz.prog W = .ok (.enter 74 args) W := Go.MuLone.run_callFunc_enter (P := Tryz.prog) Tryz.func74 (by kernel_rfl) rfl args W
theorem size_fm (w : World) : (sizeOf 27).run Tryz.prog w = .ok (4 + 1) w := by kernel_rfl
theorem zero_bool (w : World) : (zeroValue 4).run Tryz.prog w = .ok (.bool false) w := by kernel_rfl
/-- The blocks in which the nodes of a list stand. -/
def blocksOf (U : List Loc) (b : Nat) : Prop := ∃ x ∈ U, x.1.block = b
theorem key_fm (U : List Loc) : PKey Tryz.prog 63 (AllPlain (blocksOf U)) (PtrOk (blocksOf U)) := ptr_key Tryz.underlying63 size_fm _
theorem ptrs_flat (l : List Loc) : l.flatMap (fun x => [ptrV x]) = ptrs l := by
  induction l with
  | nil => rfl
  | cons x l ih => rw [List.flatMap_cons, ih]; rfl
theorem ptr_inj {l : List Loc} {y : Loc} (h : ptrV y ∈ l.map ptrV) : y.1 ∈ l.map Prod.fst := by
  obtain ⟨x, hx, e⟩ := List.mem_map.1 h
  injection e with e
  injection e with e
  exact List.mem_map.2 ⟨x, hx, e⟩

/-- What the nodes reached are: each once, closed under parts. -/
structure Met1 (U : List Loc) (r : Loc) (L : List Loc) : Prop where
  sub : ∀ x ∈ L, x ∈ U
  nd : (L.map Prod.fst).Nodup
  first : r ∈ L
  closed : ∀ x ∈ L, ∀ y ∈ kids x, y ∈ L
/-- The walk's frame: what it may lean on in every later world. -/
structure Ground1 (U : List Loc) (w : World) : Prop where
  ok : ∀ x ∈ U, LocOk w w.heap.size x
  len : ∀ x ∈ U, x.2.args.length ≤ 1099511627776
theorem Ground1.below {U : List Loc} {w w' : World} (h : Ground1 U w) (hb : Below w.heap.size w w') : Ground1 U w' := ⟨fun x hx => (h.ok x hx).below hb, h.len⟩
theorem Ground1.plain {U : List Loc} {w : World} (h : Ground1 U w) : AllPlain (blocksOf U) w := fun _ ⟨x, hx, e⟩ => e ▸ (h.ok x hx).plain
abbrev RS1 (base mb : Nat) (U : List Loc) (r : Loc) (w0 wr : World) (v : Value) (L : List Loc) : Prop := RS Prod.fst ptrV (fun x => [ptrV x]) 63 1 base mb (PtrOk (blocksOf U)) U r w0 wr v L

set_option maxHeartbeats 1600000 in
theorem implReached (U : List Loc) (r : Loc) (w : World) (hr : r ∈ U) (hc : ∀ x ∈ U, ∀ y ∈ kids x, y ∈ U) (hnd : (U.map Prod.fst).Nodup) (hG : Ground1 U w) (hU : U.length ≤ 1099511627776) :
    Calls Tryz.prog 73 #[.pointer (some r.1), .func (.func 74) #[] #[]] w (fun e w' => ∃ L, Met1 U r L ∧ Built w.heap.size 63 (ptrs L) w e w') := by
  obtain ⟨i0, hi, hz0, hz1, hz2⟩ := info_parts ptrInfo
  have hmm := @run_makeMap Tryz.prog
  have HE := Lib.hid enter_argsOf
  -- the first store into the map
  obtain ⟨W1, hW1⟩ : ∃ W, (w.alloc (.cells #[.pointer (some r.1)] 63)).alloc (.map #[] 0) = W := ⟨_, rfl⟩
  have hb1 : Below w.heap.size w W1 := by rw [← hW1]; exact ((Below.refl _ _).alloc (Nat.le_refl _) _).alloc (by simp) _
  have hpm1 : PM W1 (w.heap.size + 1) (PtrOk (blocksOf U)) [] (.bool true) := by
    have := PM.made (w.alloc (.cells #[.pointer (some r.1)] 63)) (PtrOk (blocksOf U)) (.bool true)
    rw [hW1] at this
    simpa using this
  have hok : PtrOk (blocksOf U) (ptrV r) := ⟨_, rfl, r, hr, rfl⟩
  obtain ⟨W2, hrun2, hpm2, hg2⟩ := hpm1.store (key_fm U) (hG.below hb1).plain Tryz.underlying141 hok (by simp)
  have hs1 : W1.heap.size = w.heap.size + 2 := by rw [← hW1]; simp
  have hrs : RS1 w.heap.size (w.heap.size + 1) U r w W2 (.slice (some ⟨w.heap.size, 0, none⟩) 1 1) [r] := by
    have ho : W1.ownsRow w.heap.size 63 1 (.slice (some ⟨w.heap.size, 0, none⟩) 1 1) 1 [ptrV r] := by
      rw [← hW1]
      exact own_keeps (rc_lit [ptrV r] rfl (Nat.le_refl _)) ((Below.refl _ _).alloc (Nat.le_refl _) _)
    exact ⟨rc_other ho hg2 (fun k hk e => by have h1 : w.heap.size = k := Option.some.inj hk; have := Option.some.inj e; omega), fun k hk => by have h1 : w.heap.size = k := Option.some.inj hk; omega, hpm2, by simpa using hr, by simp, below_grown hb1 hg2 (by omega) (fun k hk => by cases hk; omega), by simp, by omega⟩
  have hs2 : w.heap.size + 2 ≤ W2.heap.size := by have := hg2.size; omega
  have HRS := Lib.hid hrs
  have HG := Lib.hid hG
  have HC := Lib.hid hc
  have HND := Lib.hid hnd
  have HR := Lib.hid hr
  have HS2 := Lib.hid hs2
  unfold ptrV at hrun2
  clear hrs hpm1 hpm2 hg2 hok hb1 hG hc hnd hr hs1 hs2
  go_enter Tryz.func73, Tryz.ntmps73
  go_wp2_with fail
  go_loopw [5, 7] (fun v i wr => ∃ (k : Nat) (L : List Loc), k ≤ L.length ∧ i = .int .i64 k ∧ RS1 w.heap.size (w.heap.size + 1) U r w wr v L ∧ (∀ x ∈ L.take k, ∀ y ∈ kids x, y ∈ L)) (fun _ i _ => U.length - (intOf i).toNat)
  case atStart => exact ⟨0, [r], by simp, rfl, HRS.out, by simp⟩
  case round =>
    obtain ⟨k, L, hk, rfl, hrs, hcl⟩ := hrel
    have hle := hrs.le
    have hmbs := hrs.pm.lt
    obtain ⟨va, vc, rfl, _⟩ := rc_shape hrs.own
    have hrow := hrs.own
    rw [ptrs_flat] at hrow
    by_cases hlt : k < L.length
    · obtain ⟨b, o, hva, hbW, hcell⟩ := Row.owned hrow k _ (ptrs_at L k hlt)
      have hxL : L[k] ∈ L := List.getElem_mem hlt
      have htk := take_next L k hlt
      generalize L[k] = x at *
      have hxU := hrs.sub x hxL
      have hG' := HG.out.below hrs.below
      have hxok := hG'.ok x hxU
      have hxlen := hG'.len x hxU
      have HRS1 := Lib.hid hrs
      have HCL := Lib.hid hcl
      have HTK := Lib.hid htk
      have HXU := Lib.hid hxU
      have HXL := Lib.hid hxL
      have HVA := Lib.hid hva
      have hE := HE.out
      subst hva
      clear hrs hcl htk hG' hrow hxL
      go_wp2_with fail
      refine (implArgsOf x _ hxok hxlen).mono ?_
      rintro e w1 ⟨a2, c2, rfl, hcap2, hown2, hb2⟩
      have hrs1 := HRS1.out.keeps hb2 (by omega)
      have hzb2 := hb2.size
      rw [ptrs_length] at hown2 ⊢
      have hnk : (kids x).length ≤ 1099511627776 := by rw [kids_length]; exact hxlen
      obtain ⟨n, hn⟩ : ∃ n, (kids x).length = n := ⟨_, rfl⟩
      rw [hn] at hown2 hnk ⊢
      have Hown2 := Lib.hid hown2
      have Hrs1 := Lib.hid hrs1
      have HN := Lib.hid hn
      have hgap : ∀ g, (Value.slice (some ⟨b, o, none⟩) L.length vc).ownBlock = some g → ∀ g2, (Value.slice a2 n c2).ownBlock = some g2 → g ≠ g2 := fun g h1 g2 h2 => by
        have e1 := (HRS1.out.own.lt g h1).2
        have e2 := (hown2.lt g2 h2).1
        omega
      have Hgap := Lib.hid hgap
      clear hown2 hrs1 hn hgap hcell hxok hE hcap2
      go_wp2_with fail
      go_loopw [5, 28] (fun v' i wr' => ∃ (m : Nat) (L' : List Loc), m ≤ n ∧ i = .int .i64 m ∧ RS1 w.heap.size (w.heap.size + 1) U r w wr' v' L' ∧ (∃ q, L' = L ++ q) ∧ (∀ y ∈ (kids x).take m, y ∈ L') ∧ wr'.ownsRow wr.heap.size 63 1 (.slice a2 n c2) n (ptrs (kids x)) ∧
          (∀ g, v'.ownBlock = some g → ∀ g2, (Value.slice a2 n c2).ownBlock = some g2 → g ≠ g2) ∧ wr.heap.size ≤ wr'.heap.size) (fun _ i _ => n - (intOf i).toNat)
      case atStart => exact ⟨0, L, Nat.zero_le _, rfl, Hrs1.out, ⟨[], by simp⟩, by simp, Hown2.out, Hgap.out, hzb2⟩
      case round =>
        rename_i wr'
        obtain ⟨m, L', hm, rfl, hrs', hq, hin, hown2', hgap', hz'⟩ := hrel
        have hle' := hrs'.le
        obtain ⟨va', vc', rfl, _⟩ := rc_shape hrs'.own
        by_cases hlt' : m < n
        · have hlk : m < (kids x).length := by rw [HN.out]; exact hlt'
          obtain ⟨b', o', ha2, hb', hcell'⟩ := Row.owned hown2' m _ (ptrs_at (kids x) m hlk)
          have hyk : (kids x)[m] ∈ kids x := List.getElem_mem hlk
          have hyt := take_next (kids x) m hlk
          generalize (kids x)[m] = y at *
          have hyU := HC.out x HXU.out y hyk
          have hG2 := HG.out.below hrs'.below
          have hyin : y.1 ∈ L'.map Prod.fst → y ∈ L' := fun h => by
            obtain ⟨z, hz, e⟩ := List.mem_map.1 h
            have := map_inj_on HND.out (hrs'.sub z hz) hyU e
            rw [← this]
            exact hz
          have hyok : PtrOk (blocksOf U) (ptrV y) := ⟨_, rfl, y, hyU, rfl⟩
          have HRS2 := Lib.hid hrs'
          have HIN := Lib.hid hin
          have HYT := Lib.hid hyt
          have HQ := Lib.hid hq
          have HO2 := Lib.hid hown2'
          have HG2 := Lib.hid hgap'
          have HHA := Lib.hid ha2
          by_cases hy : y.1 ∈ L'.map Prod.fst
          · have hyL := hyin hy
            have hl := hrs'.pm.hit (key_fm U) hG2.plain Tryz.underlying141 (List.mem_map.2 ⟨y, hyL, rfl⟩)
            unfold ptrV at hl
            have HYL := Lib.hid hyL
            subst ha2
            clear hrs' hin hyt hq hown2' hgap' hy hyL hyin hyok hG2
            go_wp2_with fail
            go_roundw
            case rel =>
              refine ⟨m + 1, L', by omega, by go_num, HRS2.out, HQ.out, fun z hz => ?_, HO2.out, HG2.out, hz'⟩
              rw [HYT.out] at hz
              rcases List.mem_append.1 hz with hz | hz
              · exact HIN.out z hz
              · rw [List.mem_singleton.1 hz]
                exact HYL.out
            case measure => simp [intOf]; omega
          · have hny : ptrV y ∉ L'.map ptrV := fun h => hy (ptr_inj h)
            have hl := hrs'.pm.miss (key_fm U) hG2.plain Tryz.underlying141 hyok hny (zero_bool _)
            obtain ⟨w4, hst, hp4, hg4⟩ := hrs'.pm.store (key_fm U) hG2.plain Tryz.underlying141 hyok hny
            unfold ptrV at hl hst
            have hmb' := hrs'.pm.lt
            have hno := hrs'.noted hg4
            have hz4 := hg4.size
            have HNO := Lib.hid hno
            have HP4 := Lib.hid hp4
            have HG4 := Lib.hid hg4
            have HY := Lib.hid hy
            have HYU := Lib.hid hyU
            subst ha2
            clear hrs' hin hyt hq hown2' hgap' hy hyin hyok hG2 hny hno hp4 hg4
            go_wp2_with (at_builtin; refine wpList_append_own_at _ rfl (.tmp 38) (.tmp 40) 104 rfl w.heap.size 63 i0 (.pointer none) 1 8 Tryz.underlying104 hi hz0 hz1 hz2 rfl (by decide) _ L'.length _ rfl (HNO.out.alloc _) ⟨w4.heap.size, 0, none⟩ 1 1 [.pointer (some y.1)] rfl rfl (oneCell_at _) (oneCell_ptr _) (by unfold maxLen; omega) (by omega) (by simp; omega) ?_; intro v5 w5 hown5 hg5 _ hloc5)
            have hb45 : Below w4.heap.size w4 (w4.alloc (.cells #[.pointer (some y.1)] 63)) := (Below.refl _ _).alloc (Nat.le_refl _) _
            have HRS5 := Lib.hid (HRS2.out.added (y := y) (by omega) HYU.out HY.out HP4.out HG4.out hb45 (fun k hk => (HRS2.out.own.lt k hk).1) hown5 hg5 hloc5)
            have hz5 := hg5.size
            simp at hz5
            have HO5 := Lib.hid (rc_other (own_keeps (rc_other HO2.out HG4.out (fun k hk e => by have h1 := (HO2.out.lt k hk).1; have h2 := Option.some.inj e; omega)) hb45) hg5 (fun k hk e => HG2.out k e k hk rfl))
            have HG5 := Lib.hid (show ∀ g, v5.ownBlock = some g → ∀ g2, (Value.slice (some ⟨b', o', none⟩) n c2).ownBlock = some g2 → g ≠ g2 from fun g h1 g2 h2 => by
              rcases hloc5 with e | e
              · exact HG2.out g (e ▸ h1) g2 h2
              · rw [e] at h1
                have h3 := Option.some.inj h1
                have h4 := (HO2.out.lt g2 h2).2
                simp at h3
                omega)
            clear hown5 hg5 hloc5
            go_wp2_with fail
            go_roundw
            case rel =>
              refine ⟨m + 1, L' ++ [y], by omega, by go_num, HRS5.out, ?_, fun z hz => ?_, HO5.out, HG5.out, by omega⟩
              · obtain ⟨q, hq⟩ := HQ.out
                exact ⟨q ++ [y], by rw [hq]; simp⟩
              · rw [HYT.out] at hz
                rcases List.mem_append.1 hz with hz | hz
                · exact List.mem_append_left _ (HIN.out z hz)
                · exact List.mem_append_right _ hz
            case measure => simp [intOf]; omega
        · obtain rfl : m = n := by omega
          have HRS2 := Lib.hid hrs'
          have HIN := Lib.hid hin
          have HQ := Lib.hid hq
          clear hrs' hin hq hown2' hgap'
          go_wp2_with fail
          go_roundw
          case rel =>
            have hin' := HIN.out
            rw [← HN.out, List.take_length] at hin'
            obtain ⟨q, hq⟩ := HQ.out
            refine ⟨k + 1, L', by rw [hq]; simp; omega, by go_num, HRS2.out, fun z hz y hy => ?_⟩
            rw [hq, List.take_append_of_le_length (by omega), HTK.out] at hz
            rcases List.mem_append.1 hz with hz | hz
            · rw [hq]
              exact List.mem_append_left _ (HCL.out z hz y hy)
            · rw [List.mem_singleton.1 hz] at hy
              exact hin' y hy
          case measure => simp [intOf]; omega
    · obtain rfl : k = L.length := by omega
      have HRS1 := Lib.hid hrs
      have HCL := Lib.hid hcl
      have HRW := Lib.hid hrow
      clear hrs hcl hrow
      go_wp2_with fail
      go_ret
      refine ⟨L, ⟨HRS1.out.sub, HRS1.out.nd, HRS1.out.first, ?_⟩, built_end (ptrs_length L).symm HRW.out HRS1.out.below⟩
      have := HCL.out
      rw [List.take_length] at this
      exact this
end Go.Proofs.YtplchhahjmoodaaGreatDoor
