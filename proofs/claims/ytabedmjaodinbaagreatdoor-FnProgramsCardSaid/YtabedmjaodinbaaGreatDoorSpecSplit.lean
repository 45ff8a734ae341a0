/-
  The model's SplitByte: the pieces of the string between the occurrences of the byte, in a new row.
-/
import Derived.Test.YtabedmjaodinbaaGreatDoorCutWords
import Derived.Test.YtabedmjaodinbaaGreatDoorChecked
namespace Go.Proofs.YtabedmjaodinbaaGreatDoor
open Go Go.RowKit

theorem textInfo : (Tryz.prog.info? 9).map (fun i => (i.zero, i.size, i.bytes)) = some (some (.string ⟨#[]⟩), 1, 16) := by kernel_rfl

/-- A new row that holds these strings. -/
def RowEnd (ss : List ByteArray) (w : World) (e : Ending) (w' : World) : Prop :=
  ∃ a cap, e = .returned (.slice a ss.length cap) ∧ ss.length ≤ cap ∧ w'.ownsRow w.heap.size 9 1 (.slice a ss.length cap) ss.length (strVals ss) ∧ Below w.heap.size w w'
theorem row_end {w w' : World} {v : Value} {n : Nat} {ss : List ByteArray} (hn : n = ss.length) (h : w'.ownsRow w.heap.size 9 1 v n (strVals ss)) (hb : Below w.heap.size w w') : RowEnd ss w (.returned v) w' := by
  subst hn
  rcases h.2 with ⟨rfl, h0⟩ | ⟨g, cap, cur, rfl, hbg, hg, hnc, hcm, hcs, ht⟩
  · refine ⟨none, 0, ?_, by omega, ?_, hb⟩
    · rw [h0]
    · rw [h0] at h ⊢
      exact h
  · exact ⟨_, cap, rfl, hnc, h, hb⟩

theorem strVals_next (qs : List (List UInt8)) (s : ByteArray) (a b : Nat) : strVals (qs.map mkS) ++ [.string (s.extract a b)] = strVals ((qs ++ [(s.data.toList.drop a).take (b - a)]).map mkS) := by
  rw [List.map_append, strVals, strVals, List.map_append]
  congr 1
  rw [List.map_cons, List.map_cons, ← extract_list]
  rfl

theorem one_cell {w : World} {e : TypeId} (x : Value) : ∀ (j : Nat) (u : Value), [x][j]? = some u → (w.alloc (.cells #[x] e)).cell? ((⟨w.heap.size, 0, none⟩ : Addr).add j) = some u := by
  intro j u hu
  match j, hu with
  | 0, hu =>
    simp at hu
    subst hu
    simp [Addr.add]
  | j + 1, hu => simp at hu
theorem one_oneCell (x : ByteArray) : ∀ u ∈ [Value.string x], u.oneCell' = true := by
  intro u hu
  simp at hu
  subst hu
  rfl

set_option maxRecDepth 100000 in
set_option maxHeartbeats 800000 in
theorem specSplit (s : ByteArray) (c : UInt8) (w : World) (hs : s.size ≤ 1099511627776) :
    Calls Tryz.prog 43 #[.string s, .int .u8 (c.toNat : Int)] w (RowEnd (pieces c s) w) := by
  obtain ⟨i0, hi, hz0, hz1, hz2⟩ := info_parts textInfo
  have hlen : s.data.toList.length = s.size := by simp
  have Hlen := Lib.hid hlen
  clear hlen
  go_enter Tryz.func43, Tryz.ntmps43
  go_wp2
  go_loopw [5, 6, 7] (fun v f i wr => ∃ (a b m : Nat) (qs : List (List UInt8)), b ≤ s.size + 1 ∧ i = .int .i64 b ∧ f = .int .i64 a ∧ m = qs.length ∧ m ≤ a ∧ wr.ownsRow w.heap.size 9 1 v m (strVals (qs.map mkS)) ∧ Below w.heap.size w wr ∧ (a ≤ b) ∧
      (b ≤ s.size → qs ++ cut c (s.data.toList.drop a) = cut c s.data.toList ∧ ∀ x ∈ (s.data.toList.drop a).take (b - a), x ≠ c) ∧ (s.size < b → qs = cut c s.data.toList))
    (fun _ _ i _ => s.size + 1 - (intOf i).toNat)
  case atStart => exact ⟨0, 0, 0, [], by omega, rfl, rfl, rfl, Nat.le_refl _, World.ownsRow_made w #[] 0 (Nat.le_refl _) (Nat.zero_le _) rfl, (Below.refl _ _).alloc (Nat.le_refl _) _, Nat.le_refl _, fun _ => ⟨by simp, by simp⟩, fun h => by omega⟩
  case round =>
    obtain ⟨a, b, m, qs, hbs, rfl, rfl, hm, hma, hown, hbw, hab, hin, hout⟩ := hrel
    have Hm := Lib.hid hm
    have Hown := Lib.hid hown
    have Hin := Lib.hid hin
    have Hout := Lib.hid hout
    clear hm hown hin hout
    by_cases hend : s.size < b
    · have hq : qs = cut c s.data.toList := Hout.out hend
      have Hq := Lib.hid hq
      clear hq
      go_wp2
      go_ret
      have hown2 := Hown.out
      rw [Hq.out] at hown2
      exact row_end (by rw [pieces, List.length_map, ← Hq.out]; exact Hm.out) hown2 hbw
    · have hble : b ≤ s.size := by omega
      by_cases hlast : b = s.size
      · have hba : (s.data.toList.drop a).take (b - a) = s.data.toList.drop a := List.take_of_length_le (by rw [List.length_drop, Hlen.out]; omega)
        have hfin : qs ++ [(s.data.toList.drop a).take (b - a)] = cut c s.data.toList := by
          have h1 := (Hin.out hble).1
          have h2 := (Hin.out hble).2
          rw [hba] at h2 ⊢
          rw [← h1, cut_none c _ h2]
        have Hfin := Lib.hid hfin
        have heq : ((b : Int) == (s.size : Int)) = true := by simp; omega
        have Hlast := Lib.hid hlast
        clear hba hfin hlast
        go_wp2_with (at_builtin; refine wpList_append_own _ rfl (.tmp 26) (.tmp 31) 24 rfl w.heap.size 9 i0 (.string ⟨#[]⟩) 1 16 Tryz.underlying24 hi hz0 hz1 hz2 rfl (by decide) _ m _ rfl (Hown.out.alloc _) ⟨wr.heap.size, 0, none⟩ 1 1 [.string (s.extract a b)] rfl rfl (one_cell _) (one_oneCell _) (by unfold maxLen; omega) (by omega) (Nat.le_trans hbw.size (by simp)) ?_; intro v2 w2 hown2 hg2 _; have hb2 := own_below (Hown.out.alloc _) hg2 (Nat.le_trans hbw.size (by simp)) (hbw.alloc hbw.size _); clear hg2)
        go_roundw
        case rel =>
          refine ⟨b + 1, b + 1, m + 1, qs ++ [(s.data.toList.drop a).take (b - a)], by omega, by go_num, by go_num, by rw [List.length_append, List.length_singleton, Hm.out], by omega, ?_, hb2, Nat.le_refl _, fun h => ?_, fun _ => Hfin.out⟩
          · rw [← strVals_next]; exact hown2
          · have := Hlast.out
            omega
        case measure => simp [intOf]; omega
      · have hlt : b < s.size := by omega
        have heq : ((b : Int) == (s.size : Int)) = false := by simp; omega
        have hbl : b < s.data.toList.length := by rw [Hlen.out]; exact hlt
        by_cases hc : s[b] = c
        · have hbc : ((s[b].toNat : Int) == (c.toNat : Int)) = true := by rw [hc]; simp
          have hstep : cut c (s.data.toList.drop a) = (s.data.toList.drop a).take (b - a) :: cut c (s.data.toList.drop (b + 1)) := cut_step hab hbl hc (Hin.out hble).2
          have Hstep := Lib.hid hstep
          clear hstep hc
          go_wp2_with (at_builtin; refine wpList_append_own _ rfl (.tmp 26) (.tmp 31) 24 rfl w.heap.size 9 i0 (.string ⟨#[]⟩) 1 16 Tryz.underlying24 hi hz0 hz1 hz2 rfl (by decide) _ m _ rfl (Hown.out.alloc _) ⟨wr.heap.size, 0, none⟩ 1 1 [.string (s.extract a b)] rfl rfl (one_cell _) (one_oneCell _) (by unfold maxLen; omega) (by omega) (Nat.le_trans hbw.size (by simp)) ?_; intro v2 w2 hown2 hg2 _; have hb2 := own_below (Hown.out.alloc _) hg2 (Nat.le_trans hbw.size (by simp)) (hbw.alloc hbw.size _); clear hg2)
          go_roundw
          case rel =>
            refine ⟨b + 1, b + 1, m + 1, qs ++ [(s.data.toList.drop a).take (b - a)], by omega, by go_num, by go_num, by rw [List.length_append, List.length_singleton, Hm.out], by omega, ?_, hb2, Nat.le_refl _, fun h => ⟨?_, ?_⟩, fun h => ?_⟩
            · rw [← strVals_next]; exact hown2
            · rw [← (Hin.out hble).1, Hstep.out]
              simp
            · simp
            · omega
          case measure => simp [intOf]; omega
        · have hbc : ((s[b].toNat : Int) == (c.toNat : Int)) = false := by
            simp only [beq_eq_false_iff_ne, ne_eq]
            intro h
            exact hc (UInt8.toNat_inj.1 (by omega))
          have hseg := seg_next hab hbl hc (Hin.out hble).2
          have Hseg := Lib.hid hseg
          clear hseg hc
          go_wp2
          go_roundw
          case rel =>
            exact ⟨a, b + 1, m, qs, by omega, by go_num, rfl, Hm.out, by omega, Hown.out, hbw, by omega, fun h => ⟨(Hin.out hble).1, Hseg.out⟩, fun h => by omega⟩
          case measure => simp [intOf]; omega
end Go.Proofs.YtabedmjaodinbaaGreatDoor
