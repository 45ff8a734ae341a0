/-
  The program's row of the parts of a row.
-/
import Derived.Test.YtplchhahjmoodaaDoorZ25
namespace Go.Proofs.YtplchhahjmoodaaDoor
open Go Go.RowKit Go.ChangeAt Go.ChangeShapes Go.WideShapes

theorem zero_int (w : World) : (zeroValue 3).run Tryd.prog w = .ok (.int .i64 0) w := by kernel_rfl
theorem ptrs_flatMap_snoc (qs : List Loc) (x : Loc) : ptrs ((qs ++ [x]).flatMap kids) = ptrs (qs.flatMap kids) ++ ptrs (kids x) := by simp [ptrs]

set_option maxHeartbeats 1600000 in
theorem implBelow (U R : List Loc) (b : Nat) (w : World) (hpm : PM w b (PtrOk (blocksOf U)) (ptrs R) one64) (hlv : Lv U R) (hc : ∀ x ∈ U, ∀ y ∈ kids x, y ∈ U) (hnd : (U.map Prod.fst).Nodup) (hG : Ground1 U w) :
    Calls Tryd.prog 119 #[.map (some b)] w (fun e w' => ∃ A Q, e = .returned (.map (some A)) ∧ R.Perm Q ∧ PM w' A (PtrOk (blocksOf U)) (ptrs (Q.flatMap kids)) one64 ∧ w.heap.size ≤ A ∧ Below w.heap.size w w') := by
  have hmm := @run_makeMap Tryd.prog
  have hb := hpm.lt
  obtain ⟨W1, hW1⟩ : ∃ W, w.alloc (.map #[] 0) = W := ⟨_, rfl⟩
  have hb1 : Below w.heap.size w W1 := by rw [← hW1]; exact (Below.refl _ _).alloc (Nat.le_refl _) _
  have hs1 : W1.heap.size = w.heap.size + 1 := by rw [← hW1]; simp
  have hA1 : PM W1 w.heap.size (PtrOk (blocksOf U)) [] one64 := by rw [← hW1]; exact PM.made w _ _
  obtain ⟨W2, hrange, hpr, hb2, hs2⟩ := (hpm.below hb1).range (P := Tryd.prog) Tryd.underlying157
  have hB2 : Below w.heap.size w W2 := hb1.trans (hb2.mono (by omega))
  have HA2 := Lib.hid (hA1.below hb2)
  rw [hs1] at hpr hrange
  have HPR := Lib.hid hpr
  have HLV := Lib.hid hlv
  have HC := Lib.hid hc
  have HND := Lib.hid hnd
  have HG := Lib.hid hG
  have HR := Lib.hid hpm.nodup
  clear hpm hpr hlv hc hnd hG hA1 hb2 hs2 hs1 hb1
  go_enter Tryd.func119, Tryd.ntmps119
  go_wp2_with fail
  go_loopw [4] (fun _ wr => ∃ qs : List Loc, PRange wr b (w.heap.size + 1) (PtrOk (blocksOf U)) (ptrs R) one64 (ptrs qs) ∧ (∀ q ∈ qs, q ∈ R) ∧ PM wr w.heap.size (PtrOk (blocksOf U)) (ptrs (qs.flatMap kids)) one64 ∧ Below w.heap.size w wr) (fun _ wr => R.length - comeAt wr (w.heap.size + 1))
  case atStart => exact ⟨[], HPR.out, by simp, HA2.out, hB2⟩
  case round =>
    obtain ⟨qs, hpr, hqs, hpa, hbw⟩ := hrel
    have hcome := hpr.come
    rw [ptrs_length] at hcome
    have hnq := hpr.nodup.1
    rcases hpr.next (P := Tryd.prog) (by omega) with ⟨hall, hrun⟩ | ⟨y, w1, hy, hny, hrun, hpr1, ht1, hent⟩
    · have HP := Lib.hid (show R.Perm qs from perm_of_all (nodup_of_map hnq) (nodup_of_map HR.out) hqs fun x hx => by
        have h1 := hall (ptrV x) (List.mem_map.2 ⟨x, hx, rfl⟩)
        obtain ⟨z, hz, e⟩ := List.mem_map.1 h1
        have := ptr_of HND.out (HLV.out.sub z (hqs z hz)) (HLV.out.sub x hx) e
        rw [← this]
        exact hz)
      have HPA := Lib.hid hpa
      clear hall hpr hpa hnq hqs hcome
      go_wp2_with fail
      go_ret
      exact ⟨w.heap.size, qs, rfl, HP.out, HPA.out, Nat.le_refl _, hbw⟩
    · obtain ⟨x, hx, rfl⟩ := List.mem_map.1 hy
      have hxU := HLV.out.sub x hx
      have hb1 : Below w.heap.size w w1 := ht1.below hbw (by omega) hbw.size
      have hz1 := ht1.size
      have hpa1 := hpa.turn ht1 (.inl (by omega))
      have hcome1 := hpr1.come
      have hqx : ∀ q ∈ qs ++ [x], q ∈ R := fun q hq => by
        rcases List.mem_append.1 hq with hq | hq
        · exact hqs q hq
        · rw [List.mem_singleton.1 hq]
          exact hx
      have e1 : ptrs qs ++ [ptrV x] = ptrs (qs ++ [x]) := by simp [ptrs]
      rw [e1] at hpr1 hcome1
      rw [ptrs_length, List.length_append, List.length_singleton] at hcome1
      have hndq : (qs ++ [x]).Nodup := nodup_of_map hpr1.nodup.1
      have hlen : (qs ++ [x]).length ≤ R.length := nodup_le hndq hqx
      rw [List.length_append, List.length_singleton] at hlen
      have hpart := HLV.out.part HC.out hndq hqx
      have hG1 := HG.out.below hb1
      have hxok := hG1.ok x hxU
      have hxl := hG1.len x hxU
      have hent1 := hent w1 rfl rfl
      have HPR1 := Lib.hid hpr1
      have HPA1 := Lib.hid hpa1
      have HQX := Lib.hid hqx
      have HPART := Lib.hid hpart
      have HCM := Lib.hid hcome
      have HCM1 := Lib.hid hcome1
      have HLN := Lib.hid hlen
      unfold ptrV at hrun hent1
      clear hpr hpr1 hpa hpa1 hqs hny hent hnq hcome hcome1 hqx e1 hndq hpart hG1 hlen hy ht1
      go_wp2_with fail
      refine (implArgsOf x _ hxok hxl).mono ?_
      rintro e w2 ⟨a2, c2, rfl, hcap2, hown2, hb2⟩
      have hz2 := hb2.size
      rw [ptrs_length] at hown2 ⊢
      have hnk : (kids x).length ≤ 1099511627776 := by rw [kids_length]; exact hxl
      obtain ⟨n, hn⟩ : ∃ n, (kids x).length = n := ⟨_, rfl⟩
      rw [hn] at hown2 hnk ⊢
      have Hown2 := Lib.hid hown2
      have HN := Lib.hid hn
      have HPR2 := Lib.hid (HPR1.out.below hb2)
      have HPA2 := Lib.hid (HPA1.out.below hb2)
      have hB2' : Below w.heap.size w w2 := hb1.trans (hb2.mono (by have := hb1.size; omega))
      have hz12 := HPR1.out.lt
      clear hown2 hn hcap2 hxok hrun hent1 hbw
      go_wp2_with fail
      go_loopw [19] (fun i wq => ∃ m : Nat, m ≤ n ∧ i = .int .i64 m ∧ PRange wq b (w.heap.size + 1) (PtrOk (blocksOf U)) (ptrs R) one64 (ptrs (qs ++ [x])) ∧ PM wq w.heap.size (PtrOk (blocksOf U)) (ptrs (qs.flatMap kids ++ (kids x).take m)) one64 ∧
          wq.ownsRow w1.heap.size 103 1 (.slice a2 n c2) n (ptrs (kids x)) ∧ Below w.heap.size w wq ∧ w1.heap.size ≤ wq.heap.size) (fun i _ => n - (intOf i).toNat)
      case atStart => exact ⟨0, Nat.zero_le _, rfl, HPR2.out, by simpa using HPA2.out, Hown2.out, hB2', hz2⟩
      case round =>
        obtain ⟨m, hm, rfl, hprq, hpaq, hownq, hbq, hzq⟩ := hrel
        have hza := hpaq.lt
        by_cases hlt' : m < n
        · have hlk : m < (kids x).length := by rw [HN.out]; exact hlt'
          obtain ⟨b', o', ha2, hb', hcell'⟩ := Row.owned hownq m _ (ptrs_at (kids x) m hlk)
          have hyk : (kids x)[m] ∈ kids x := List.getElem_mem hlk
          have hyt := take_next (kids x) m hlk
          have hnew : ((qs.flatMap kids ++ (kids x).take (m + 1)).map Prod.fst).Nodup := by
            have h1 := HPART.out
            rw [← List.take_append_drop (m + 1) (kids x), ← List.append_assoc, List.map_append] at h1
            exact (List.nodup_append.1 h1).1
          rw [hyt, ← List.append_assoc] at hnew
          generalize (kids x)[m] = y at *
          have hyU := HC.out x hxU y hyk
          have hny : ptrV y ∉ ptrs (qs.flatMap kids ++ (kids x).take m) := fun h => by
            rw [List.map_append] at hnew
            exact (List.nodup_append.1 hnew).2.2 _ (ptr_inj h) y.1 (by simp) rfl
          have hyok : PtrOk (blocksOf U) (ptrV y) := ⟨_, rfl, y, hyU, rfl⟩
          have hGq := HG.out.below hbq
          have hl := hpaq.miss (key_fm U) hGq.plain Tryd.underlying157 hyok hny (zero_int _)
          obtain ⟨w4, hst, hp4, hg4⟩ := hpaq.store (key_fm U) hGq.plain Tryd.underlying157 hyok hny
          unfold ptrV at hl hst
          have hz4 := hg4.size
          have hT4 : Turn w.heap.size (w.heap.size + 1) wr w4 := Turn.of_grown hg4 fun k hk => by have := Option.some.inj hk; omega
          have HP4 := Lib.hid (show PM w4 w.heap.size (PtrOk (blocksOf U)) (ptrs (qs.flatMap kids ++ (kids x).take (m + 1))) one64 by
            rw [hyt, ← List.append_assoc, ptrs_snoc]
            exact hp4)
          have HPR4 := Lib.hid (hprq.turn hT4 (.inl hb) (.inr (Nat.le_refl _)))
          have HO4 := Lib.hid (rc_other hownq hg4 (fun k hk e => by have h1 := (hownq.lt k hk).1; have h2 := Option.some.inj e; omega))
          have hb4 : Below w.heap.size w w4 := hT4.below hbq (Nat.le_refl _) hbq.size
          have HHA := Lib.hid ha2
          subst ha2
          clear hprq hpaq hownq hnew hny hyok hGq hp4 hg4 hT4 hyt hbq
          go_wp2_with fail
          refine (implCountNew _).mono ?_
          rintro e w5 ⟨rfl, rfl⟩
          go_wp2_with fail
          go_roundw
          case rel => exact ⟨m + 1, by omega, by go_num, HPR4.out, HP4.out, HO4.out, hb4, by omega⟩
          case measure => simp [intOf]; omega
        · obtain rfl : m = n := by omega
          have HPRQ := Lib.hid hprq
          have HPAQ := Lib.hid hpaq
          clear hprq hpaq hownq
          go_wp2_with fail
          go_roundw
          case rel =>
            refine ⟨qs ++ [x], HPRQ.out, HQX.out, ?_, hbq⟩
            rw [ptrs_flatMap_snoc]
            have := HPAQ.out
            rw [← HN.out, List.take_length, ptrs, List.map_append] at this
            exact this
          case measure =>
            have h1 := HPRQ.out.come
            rw [ptrs_length, List.length_append, List.length_singleton] at h1
            have h2 := HCM.out
            have h3 := HLN.out
            omega
end Go.Proofs.YtplchhahjmoodaaDoor
