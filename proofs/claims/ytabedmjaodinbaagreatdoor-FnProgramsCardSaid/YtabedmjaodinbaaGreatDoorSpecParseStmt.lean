/-
  The model's ParseStmt: it tries every kind with every two of the names, and finds the guess or nothing.
-/
import Derived.Test.YtabedmjaodinbaaGreatDoorWordsOf
import Derived.Test.YtabedmjaodinbaaGreatDoorGuess
import Derived.RegionTactic
import Derived.ChangeAlike
namespace Go.Proofs.YtabedmjaodinbaaGreatDoor
open Go Go.RowKit

/-- The names that are tried. -/
theorem names_words (t : ByteArray) : namesS t = ⟨#[]⟩ :: ⟨#[]⟩ :: (wordsS t).take 3 := by
  simp only [namesS, namesL, wordsS, List.map_cons, List.map_take]
  rfl
theorem getD_at {l : List ByteArray} {i : Nat} (h : i < l.length) : l.getD i ⟨#[]⟩ = l[i] := by simp [List.getD, h]
def Hit (t : ByteArray) (k : Int) (a b : ByteArray) : Prop := t.toList.isEmpty = false ∧ textS k a b = t
def Miss (t : ByteArray) (ns : List ByteArray) (i j k : Nat) : Prop :=
  ∀ i' j' k' : Nat, i' < ns.length → j' < ns.length → 1 ≤ k' → k' ≤ 12 → (i' < i ∨ i' = i ∧ j' < j ∨ i' = i ∧ j' = j ∧ k' < k) → ¬ Hit t k' (ns.getD i' ⟨#[]⟩) (ns.getD j' ⟨#[]⟩)
theorem miss_start (t : ByteArray) (ns : List ByteArray) : Miss t ns 0 0 1 := fun i' j' k' _ _ h1 _ h => by omega
theorem miss_k {t : ByteArray} {ns : List ByteArray} {i j k : Nat} (h : Miss t ns i j k) (hn : ¬ Hit t k (ns.getD i ⟨#[]⟩) (ns.getD j ⟨#[]⟩)) : Miss t ns i j (k + 1) := by
  intro i' j' k' hi hj h1 h2 hc
  by_cases hk : i' = i ∧ j' = j ∧ k' = k
  · obtain ⟨rfl, rfl, rfl⟩ := hk
    exact hn
  · exact h i' j' k' hi hj h1 h2 (by omega)
theorem miss_j {t : ByteArray} {ns : List ByteArray} {i j : Nat} (h : Miss t ns i j 13) : Miss t ns i (j + 1) 1 := by
  intro i' j' k' hi hj h1 h2 hc
  exact h i' j' k' hi hj h1 h2 (by omega)
theorem miss_i {t : ByteArray} {ns : List ByteArray} {i : Nat} (h : Miss t ns i ns.length 1) : Miss t ns (i + 1) 0 1 := by
  intro i' j' k' hi hj h1 h2 hc
  exact h i' j' k' hi hj h1 h2 (by omega)
theorem miss_end {t : ByteArray} (h : Miss t (namesS t) (namesS t).length 0 1) : parsesS t = false := by
  cases hp : parsesS t with
  | false => rfl
  | true =>
    exfalso
    obtain ⟨⟨k1, k2⟩, ha, hb⟩ := parsesS_names hp
    obtain ⟨i, hi, ei⟩ := List.getElem_of_mem ha
    obtain ⟨j, hj, ej⟩ := List.getElem_of_mem hb
    refine h i j (guessK t).toNat hi hj (by omega) (by omega) (.inl hi) ⟨(parse_yes hp).2, ?_⟩
    rw [getD_at hi, getD_at hj, ei, ej, show (((guessK t).toNat : Nat) : Int) = guessK t from by omega]
    exact (parsesS_text hp).2
theorem hit_value {t : ByteArray} {k : Int} {a b : ByteArray} (h : Hit t k a b) : parseV t = .tuple #[stV k a b, .bool true] := by
  obtain ⟨h1, h2, h3, h4⟩ := parsesS_of h.2 (size_some h.1)
  rw [parseV, if_pos h1, h2, h3, h4]
theorem miss_value {t : ByteArray} (h : parsesS t = false) : parseV t = .tuple #[stV 0 ⟨#[]⟩ ⟨#[]⟩, .bool false] := by
  rw [parseV, if_neg (by rw [h]; decide)]

theorem own_full (w : World) {e : TypeId} (cur : Array Value) (n : Nat) (hn : cur.size = n) (hm : n ≤ maxLen) : (w.alloc (.cells cur e)).ownsRow w.heap.size e 1 (.slice (some ⟨w.heap.size, 0, none⟩) n n) n cur.toList :=
  ⟨by simpa using hn, .inr ⟨w.heap.size, n, cur, rfl, Nat.le_refl _, heap_alloc_new w _, Nat.le_refl _, hm, by omega, by rw [List.take_of_length_le (by simp; omega)]⟩⟩
theorem own_some {w : World} {base e n : Nat} {v : Value} {xs : List Value} (h : w.ownsRow base e 1 v n xs) (hn : 1 ≤ n) : ∃ g cap, v = .slice (some ⟨g, 0, none⟩) n cap := by
  rcases h.2 with ⟨_, h0⟩ | ⟨g, cap, cur, hv, _⟩
  · omega
  · exact ⟨g, cap, hv⟩
theorem wordsFrom_length : ∀ (l cur x : List UInt8), x ∈ wordsFrom l cur → x.length ≤ cur.length + l.length
  | [], cur, x, h => by
    unfold wordsFrom at h
    split at h
    · simp at h
    · simp at h
      subst h
      simp
  | c :: cs, cur, x, h => by
    unfold wordsFrom at h
    split at h
    · have := wordsFrom_length cs (cur ++ [c]) x h
      simp at this ⊢
      omega
    · split at h
      · have := wordsFrom_length cs [] x h
        simp at this ⊢
        omega
      · rcases List.mem_cons.1 h with h | h
        · subst h; simp
        · have := wordsFrom_length cs [] x h
          simp at this ⊢
          omega
theorem namesS_size {t x : ByteArray} (h : x ∈ namesS t) : x.size ≤ t.size := by
  obtain ⟨l, hl, rfl⟩ := List.mem_map.1 h
  show l.length ≤ t.size
  rcases List.mem_cons.1 hl with rfl | hl
  · simp
  · rcases List.mem_cons.1 hl with rfl | hl
    · simp
    · have := wordsFrom_length _ _ _ (List.mem_of_mem_take hl)
      simpa using this
theorem names_at {ns : List ByteArray} {t : ByteArray} (h : ∀ x ∈ ns, x.size ≤ t.size) (i : Nat) : (ns.getD i ⟨#[]⟩).size ≤ t.size := by
  by_cases hi : i < ns.length
  · rw [getD_at hi]
    exact h _ (List.getElem_mem hi)
  · rw [show ns.getD i ⟨#[]⟩ = ⟨#[]⟩ from by rw [List.getD, List.getElem?_eq_none (by omega)]; rfl]
    exact Nat.zero_le _

theorem row_cell {W wr : World} {B g : Nat} {ns : List ByteArray} (h : Row W B (some ⟨g, 0, none⟩) (strVals ns)) (hB : B = W.heap.size) (hb : Below W.heap.size W wr) {i : Nat} (hi : i < ns.length) :
    wr.cell? ⟨g, i, none⟩ = some (.string (ns.getD i ⟨#[]⟩)) ∧ g < wr.heap.size := by
  obtain ⟨b, o, e, hbB, hc⟩ := h i (.string ns[i]) (by simp [strVals, hi])
  cases e
  subst hB
  rw [getD_at hi]
  refine ⟨(hb.cell (p := ⟨g, i, none⟩) hbB).trans ?_, Nat.lt_of_lt_of_le hbB hb.size⟩
  rw [Nat.zero_add] at hc
  exact hc
set_option maxRecDepth 100000 in
set_option maxHeartbeats 3200000 in
theorem specParse (t : ByteArray) (w : World) (ht : t.size ≤ 2147483648) : Calls Tryz.prog 85 #[.string t] w (GaveB (parseV t) w) := by
  obtain ⟨i0, hi, hz0, hz1, hz2⟩ := info_parts strInfo
  have hns := names_words t
  generalize hws : wordsS t = ws at *
  have Hns := Lib.hid hns
  have Hws := Lib.hid hws
  clear hns hws
  go_enter Tryz.func85, Tryz.ntmps85
  go_wp2_with fail
  refine (specWords t _ (by omega)).mono ?_
  rw [Hws.out]
  rintro e w1 ⟨a0, cap0, rfl, hcap0, ho0, hb1⟩
  have hB1 : Below w.heap.size w w1 := ((Below.refl _ _).alloc (Nat.le_refl _) _).trans (hb1.mono (by simp))
  have hr1 : Row w1 w1.heap.size a0 (strVals ws) := Row.owned ho0
  have hs1 : w.heap.size < w1.heap.size := by have h := hb1.size; simp at h; omega
  have hblk1 : w1.heap[w.heap.size]? = some (.cells #[.int .i64 0, .string ⟨#[]⟩, .string ⟨#[]⟩] 42 (0, 0)) := (hb1.block w.heap.size (by simp)).trans (heap_alloc_new w _)
  have HBLK1 := Lib.hid hblk1
  clear ho0 hb1 hblk1
  go_wp2
  go_loopw [5, 6] (fun v i wr => ∃ (k m g cap : Nat), k ≤ ws.length ∧ k ≤ 3 ∧ i = .int .i64 k ∧ v = .slice (some ⟨g, 0, none⟩) m cap ∧ m = k + 2 ∧ wr.ownsRow w1.heap.size 9 1 (.slice (some ⟨g, 0, none⟩) m cap) m (strVals (⟨#[]⟩ :: ⟨#[]⟩ :: ws.take k)) ∧ Below w1.heap.size w1 wr)
    (fun _ i _ => 3 - (intOf i).toNat)
  case atStart => exact ⟨0, 2, w1.heap.size, 2, by omega, by omega, rfl, rfl, rfl, own_full w1 #[.string ⟨#[]⟩, .string ⟨#[]⟩] 2 rfl (by decide), (Below.refl _ _).alloc (Nat.le_refl _) _⟩
  case round =>
    obtain ⟨k, m, g, cap, hk, hk3, rfl, rfl, hm, hown, hbw⟩ := hrel
    have Hown := Lib.hid hown
    have Hm := Lib.hid hm
    clear hown hm
    by_cases hgo : k < ws.length ∧ k < 3
    · obtain ⟨hkl, hk3'⟩ := hgo
      obtain ⟨b, o, rfl, hbB, hc⟩ := hr1 k (.string ws[k]) (by simp [strVals, hkl])
      have hc1 : wr.cell? ⟨b, o + k, none⟩ = some (.string ws[k]) := (hbw.cell (p := ⟨b, o + k, none⟩) hbB).trans hc
      have Htk := Lib.hid (show strVals (⟨#[]⟩ :: ⟨#[]⟩ :: ws.take k) ++ [.string ws[k]] = strVals (⟨#[]⟩ :: ⟨#[]⟩ :: ws.take (k + 1)) from by rw [take_next ws k hkl]; simp only [strVals, List.map_cons, List.map_append, List.map_nil, List.cons_append])
      clear hc
      have hkk : (k : Int) < (ws.length : Int) := by omega
      go_wp2_with (at_builtin; refine wpList_append_own _ rfl (.tmp 24) (.tmp 29) 24 rfl w1.heap.size 9 i0 (.string ⟨#[]⟩) 1 16 Tryz.underlying24 hi hz0 hz1 hz2 rfl (by decide) _ m _ rfl (Hown.out.alloc _) ⟨wr.heap.size, 0, none⟩ 1 1 [.string ws[k]] rfl rfl (cell_one _) (string_oneCell _) (by have := Hm.out; unfold maxLen; omega) (by have := Hm.out; omega) (Nat.le_trans hbw.size (by simp)) ?_; intro v2 w2 hown2 hg2 _; have hb2 := own_below (Hown.out.alloc _) hg2 (Nat.le_trans hbw.size (by simp)) (hbw.alloc hbw.size _); clear hg2)
      obtain ⟨g2, cap2, rfl⟩ := own_some hown2 (by omega)
      go_roundw
      case rel => exact ⟨k + 1, m + 1, g2, cap2, by omega, by omega, by go_num, rfl, by rw [Hm.out], by rw [← Htk.out]; exact hown2, hb2⟩
      case measure => simp [intOf]; omega
    · have hne : (⟨#[]⟩ :: ⟨#[]⟩ :: ws.take k : List ByteArray) = namesS t := by
        rw [Hns.out]
        congr 2
        by_cases h3 : k = 3
        · rw [h3]
        · rw [List.take_of_length_le (by omega), List.take_of_length_le (by omega)]
      have hnl : (namesS t).length = m := by rw [← hne, Hm.out]; simp; omega
      have hsz : ∀ x ∈ namesS t, x.size ≤ t.size := fun x hx => namesS_size hx
      have hme : Miss t (namesS t) (namesS t).length 0 1 → parsesS t = false := miss_end
      have hown2 := Hown.out
      rw [hne] at hown2
      have hr2 : Row wr wr.heap.size (some ⟨g, 0, none⟩) (strVals (namesS t)) := Row.owned hown2
      have hm5 : m ≤ 5 := by rw [Hm.out]; omega
      have hBw : Below w.heap.size w wr := hB1.trans (hbw.mono hB1.size)
      have HBLK := Lib.hid (show wr.heap[w.heap.size]? = some (.cells #[.int .i64 0, .string ⟨#[]⟩, .string ⟨#[]⟩] 42 (0, 0)) from (hbw.block w.heap.size hs1).trans HBLK1.out)
      have hbw1 : w.heap.size < wr.heap.size := Nat.lt_of_lt_of_le hs1 hbw.size
      generalize namesS t = ns at *
      subst hnl
      have HR := Lib.hid hr2
      have HSZ := Lib.hid hsz
      have HME := Lib.hid hme
      clear hr2 hsz hme hown2 hne Hown Hm Hns Hws hr1 hB1 hbw hz0 hz1 hz2 hi
      obtain ⟨W, rfl⟩ : ∃ W : World, W = wr := ⟨_, rfl⟩
      have hguard : (decide ((k : Int) < (ws.length : Int)) && decide ((k : Int) < 3)) = false := by simp; omega
      by_cases hkl : k < ws.length
      · have hk3e : ¬ (k : Int) < 3 := by omega
        have hkl2 : (k : Int) < (ws.length : Int) := by omega
        go_wp2
        go_loopw [7] (fun i wq => ∃ i' : Nat, i' ≤ ns.length ∧ i = .int .i64 i' ∧ Below W.heap.size W wq ∧ Miss t ns i' 0 1) (fun i _ => ns.length - (intOf i).toNat)
        case atStart => exact ⟨0, by omega, rfl, Below.refl _ _, miss_start _ _⟩
        case round =>
          obtain ⟨i, hi, rfl, hbi, hmi⟩ := hrel
          have HMI := Lib.hid hmi
          clear hmi
          obtain ⟨wi, rfl⟩ : ∃ wi : World, wi = wr := ⟨_, rfl⟩
          by_cases hil : i < ns.length
          · go_wp2
            go_loopw [8] (fun j wq => ∃ j' : Nat, j' ≤ ns.length ∧ j = .int .i64 j' ∧ Below W.heap.size W wq ∧ Miss t ns i j' 1) (fun j _ => ns.length - (intOf j).toNat)
            case atStart => exact ⟨0, by omega, rfl, hbi, HMI.out⟩
            case round =>
              obtain ⟨j, hj, rfl, hbj, hmj⟩ := hrel
              have HMJ := Lib.hid hmj
              clear hmj
              obtain ⟨wj, rfl⟩ : ∃ wj : World, wj = wr := ⟨_, rfl⟩
              by_cases hjl : j < ns.length
              · go_wp2
                go_loopw [9] (fun q wq => ∃ q' : Nat, 1 ≤ q' ∧ q' ≤ 13 ∧ q = .int .i64 q' ∧ Below W.heap.size W wq ∧ Miss t ns i j q') (fun q _ => 13 - (intOf q).toNat)
                case atStart => exact ⟨1, by omega, by omega, rfl, hbj, HMJ.out⟩
                case round =>
                  obtain ⟨q, hq1, hq, rfl, hbq, hmq⟩ := hrel
                  have HMQ := Lib.hid hmq
                  clear hmq
                  by_cases hq12 : q ≤ 12
                  · obtain ⟨ci, hgl⟩ := row_cell HR.out rfl hbq hil
                    obtain ⟨cj, _⟩ := row_cell HR.out rfl hbq hjl
                    have hzi := names_at HSZ.out i
                    have hzj := names_at HSZ.out j
                    have hgn : ¬ g = wr.heap.size := by omega
                    generalize hni : ns.getD i ⟨#[]⟩ = si at *
                    generalize hnj : ns.getD j ⟨#[]⟩ = sj at *
                    have Hni := Lib.hid hni
                    have Hnj := Lib.hid hnj
                    clear hni hnj
                    have hB3 : Below W.heap.size W ((wr.alloc (.cells #[.int .i64 (q : Int), .string si, .string sj] 42)).drew) := (hbq.alloc hbq.size _).drew
                    cases he : t.toList.isEmpty with
                    | true =>
                      have he2 : (!t.toList.isEmpty) = false := by rw [he]; rfl
                      have HMQ2 := Lib.hid (miss_k HMQ.out (fun hh => by rw [Hit, he] at hh; cases hh.1))
                      go_wp2
                      go_region
                      go_wp2
                      go_roundw
                      case rel => exact ⟨q + 1, by omega, by omega, by go_num, hB3, HMQ2.out⟩
                      case measure => simp [intOf]; omega
                    | false =>
                      have he2 : (!t.toList.isEmpty) = true := by rw [he]; rfl
                      cases htx : (textS q si sj).toList == t.toList with
                      | true =>
                        have hst : textS q si sj = t := bytes_ext (by simpa [ByteArray.toList_eq] using htx)
                        have HPV := Lib.hid (hit_value ⟨he, hst⟩)
                        have HST := Lib.hid hst
                        have hself : (t.toList == t.toList) = true := by simp
                        clear htx hst
                        go_wp2
                        go_region
                        go_wp2_with fail
                        refine (specStmtText q si sj _ (by unfold maxLen; omega) (by unfold maxLen; omega)).mono ?_
                        rw [HST.out]
                        rintro e w2 ⟨rfl, hb2⟩
                        have hB5 : Below w.heap.size w w2 := hBw.trans ((hB3.trans (hb2.mono hB3.size)).mono hBw.size)
                        obtain ⟨hc2, hf2⟩ := bcell hb2
                        have hz2 : wr.heap.size < w2.heap.size := by have h := hb2.size; simp at h; omega
                        have hz3 : w.heap.size < wr.heap.size := by have h1 := hbw1; have h2 := hbq.size; omega
                        have hz4 : w.heap.size < wr.heap.size + 1 := by omega
                        have hz5 : w.heap.size < w2.heap.size := by omega
                        have hn5 : ¬ w.heap.size = wr.heap.size := by omega
                        have hblk : wr.heap[w.heap.size]? = some (.cells #[.int .i64 0, .string ⟨#[]⟩, .string ⟨#[]⟩] 42 (0, 0)) := (hbq.block w.heap.size hbw1).trans HBLK.out
                        have rc0 : wr.cell? ⟨w.heap.size, 0, none⟩ = some (.int .i64 0) := cell_of_row wr w.heap.size 0 _ _ (0, 0) hblk
                        have rf0 : wr.frozen? ⟨w.heap.size, 0, none⟩ = false := frozen_of_row wr w.heap.size 0 _ _ hblk
                        have rc1 : wr.cell? ⟨w.heap.size, 1, none⟩ = some (.string ⟨#[]⟩) := cell_of_row wr w.heap.size 1 _ _ (0, 0) hblk
                        have rf1 : wr.frozen? ⟨w.heap.size, 1, none⟩ = false := frozen_of_row wr w.heap.size 1 _ _ hblk
                        have rc2 : wr.cell? ⟨w.heap.size, 2, none⟩ = some (.string ⟨#[]⟩) := cell_of_row wr w.heap.size 2 _ _ (0, 0) hblk
                        have rf2 : wr.frozen? ⟨w.heap.size, 2, none⟩ = false := frozen_of_row wr w.heap.size 2 _ _ hblk
                        clear hblk
                        go_wp2
                        refine bodyPost_ret (v := .tuple #[stV (q : Int) si sj, .bool true]) (by simp [results, Tryz.results85, go_sem, hc2, hz3, hz4, rc0, rc1, rc2]) rfl ⟨by rw [HPV.out], ?_⟩
                        repeat (first | exact hB5 | refine Below.setCell ?_ (by simp <;> omega) _)
                      | false =>
                        have HMQ2 := Lib.hid (miss_k HMQ.out (fun hh => by rw [Hit, Hni.out, Hnj.out] at hh; rw [hh.2] at htx; simp at htx))
                        generalize hst : textS q si sj = tx at *
                        have HST := Lib.hid hst
                        clear hst
                        go_wp2
                        go_region
                        go_wp2_with fail
                        refine (specStmtText q si sj _ (by unfold maxLen; omega) (by unfold maxLen; omega)).mono ?_
                        rw [HST.out]
                        rintro e w2 ⟨rfl, hb2⟩
                        have hB5 : Below W.heap.size W w2 := hB3.trans (hb2.mono hB3.size)
                        go_wp2
                        go_roundw
                        case rel => exact ⟨q + 1, by omega, by omega, by go_num, hB5, HMQ2.out⟩
                        case measure => simp [intOf]; omega
                  · have hq13 : q = 13 := by omega
                    subst hq13
                    have HMJ2 := Lib.hid (miss_j HMQ.out)
                    go_wp2
                    go_roundw
                    case rel => exact ⟨j + 1, by omega, by go_num, hbq, HMJ2.out⟩
                    case measure => simp [intOf]; omega
              · have hje : j = ns.length := by omega
                have HMI2 := Lib.hid (miss_i (hje ▸ HMJ.out))
                clear hje
                go_wp2
                go_roundw
                case rel => exact ⟨i + 1, by omega, by go_num, hbj, HMI2.out⟩
                case measure => simp [intOf]; omega
          · have hie : i = ns.length := by omega
            have HPV := Lib.hid (miss_value (HME.out (hie ▸ HMI.out)))
            clear hie
            have hblk : wi.heap[w.heap.size]? = some (.cells #[.int .i64 0, .string ⟨#[]⟩, .string ⟨#[]⟩] 42 (0, 0)) := (hbi.block w.heap.size hbw1).trans HBLK.out
            have rc0 : wi.cell? ⟨w.heap.size, 0, none⟩ = some (.int .i64 0) := cell_of_row wi w.heap.size 0 _ _ (0, 0) hblk
            have rf0 : wi.frozen? ⟨w.heap.size, 0, none⟩ = false := frozen_of_row wi w.heap.size 0 _ _ hblk
            have rc1 : wi.cell? ⟨w.heap.size, 1, none⟩ = some (.string ⟨#[]⟩) := cell_of_row wi w.heap.size 1 _ _ (0, 0) hblk
            have rf1 : wi.frozen? ⟨w.heap.size, 1, none⟩ = false := frozen_of_row wi w.heap.size 1 _ _ hblk
            have rc2 : wi.cell? ⟨w.heap.size, 2, none⟩ = some (.string ⟨#[]⟩) := cell_of_row wi w.heap.size 2 _ _ (0, 0) hblk
            have rf2 : wi.frozen? ⟨w.heap.size, 2, none⟩ = false := frozen_of_row wi w.heap.size 2 _ _ hblk
            clear hblk
            have hBf := hBw.trans (hbi.mono hBw.size)
            have hz3 : w.heap.size < wi.heap.size := Nat.lt_of_lt_of_le hbw1 hbi.size
            go_wp2
            refine bodyPost_ret (v := .tuple #[stV 0 ⟨#[]⟩ ⟨#[]⟩, .bool false]) (by simp [results, Tryz.results85, go_sem, rc0, rc1, rc2]) rfl ⟨by rw [HPV.out], ?_⟩
            repeat (first | exact hBf | refine Below.setCell ?_ (by simp <;> omega) _)
      · have hkl2 : ¬ (k : Int) < (ws.length : Int) := by omega
        go_wp2
        go_loopw [7] (fun i wq => ∃ i' : Nat, i' ≤ ns.length ∧ i = .int .i64 i' ∧ Below W.heap.size W wq ∧ Miss t ns i' 0 1) (fun i _ => ns.length - (intOf i).toNat)
        case atStart => exact ⟨0, by omega, rfl, Below.refl _ _, miss_start _ _⟩
        case round =>
          obtain ⟨i, hi, rfl, hbi, hmi⟩ := hrel
          have HMI := Lib.hid hmi
          clear hmi
          obtain ⟨wi, rfl⟩ : ∃ wi : World, wi = wr := ⟨_, rfl⟩
          by_cases hil : i < ns.length
          · go_wp2
            go_loopw [8] (fun j wq => ∃ j' : Nat, j' ≤ ns.length ∧ j = .int .i64 j' ∧ Below W.heap.size W wq ∧ Miss t ns i j' 1) (fun j _ => ns.length - (intOf j).toNat)
            case atStart => exact ⟨0, by omega, rfl, hbi, HMI.out⟩
            case round =>
              obtain ⟨j, hj, rfl, hbj, hmj⟩ := hrel
              have HMJ := Lib.hid hmj
              clear hmj
              obtain ⟨wj, rfl⟩ : ∃ wj : World, wj = wr := ⟨_, rfl⟩
              by_cases hjl : j < ns.length
              · go_wp2
                go_loopw [9] (fun q wq => ∃ q' : Nat, 1 ≤ q' ∧ q' ≤ 13 ∧ q = .int .i64 q' ∧ Below W.heap.size W wq ∧ Miss t ns i j q') (fun q _ => 13 - (intOf q).toNat)
                case atStart => exact ⟨1, by omega, by omega, rfl, hbj, HMJ.out⟩
                case round =>
                  obtain ⟨q, hq1, hq, rfl, hbq, hmq⟩ := hrel
                  have HMQ := Lib.hid hmq
                  clear hmq
                  by_cases hq12 : q ≤ 12
                  · obtain ⟨ci, hgl⟩ := row_cell HR.out rfl hbq hil
                    obtain ⟨cj, _⟩ := row_cell HR.out rfl hbq hjl
                    have hzi := names_at HSZ.out i
                    have hzj := names_at HSZ.out j
                    have hgn : ¬ g = wr.heap.size := by omega
                    generalize hni : ns.getD i ⟨#[]⟩ = si at *
                    generalize hnj : ns.getD j ⟨#[]⟩ = sj at *
                    have Hni := Lib.hid hni
                    have Hnj := Lib.hid hnj
                    clear hni hnj
                    have hB3 : Below W.heap.size W ((wr.alloc (.cells #[.int .i64 (q : Int), .string si, .string sj] 42)).drew) := (hbq.alloc hbq.size _).drew
                    cases he : t.toList.isEmpty with
                    | true =>
                      have he2 : (!t.toList.isEmpty) = false := by rw [he]; rfl
                      have HMQ2 := Lib.hid (miss_k HMQ.out (fun hh => by rw [Hit, he] at hh; cases hh.1))
                      go_wp2
                      go_region
                      go_wp2
                      go_roundw
                      case rel => exact ⟨q + 1, by omega, by omega, by go_num, hB3, HMQ2.out⟩
                      case measure => simp [intOf]; omega
                    | false =>
                      have he2 : (!t.toList.isEmpty) = true := by rw [he]; rfl
                      cases htx : (textS q si sj).toList == t.toList with
                      | true =>
                        have hst : textS q si sj = t := bytes_ext (by simpa [ByteArray.toList_eq] using htx)
                        have HPV := Lib.hid (hit_value ⟨he, hst⟩)
                        have HST := Lib.hid hst
                        have hself : (t.toList == t.toList) = true := by simp
                        clear htx hst
                        go_wp2
                        go_region
                        go_wp2_with fail
                        refine (specStmtText q si sj _ (by unfold maxLen; omega) (by unfold maxLen; omega)).mono ?_
                        rw [HST.out]
                        rintro e w2 ⟨rfl, hb2⟩
                        have hB5 : Below w.heap.size w w2 := hBw.trans ((hB3.trans (hb2.mono hB3.size)).mono hBw.size)
                        obtain ⟨hc2, hf2⟩ := bcell hb2
                        have hz2 : wr.heap.size < w2.heap.size := by have h := hb2.size; simp at h; omega
                        have hz3 : w.heap.size < wr.heap.size := by have h1 := hbw1; have h2 := hbq.size; omega
                        have hz4 : w.heap.size < wr.heap.size + 1 := by omega
                        have hz5 : w.heap.size < w2.heap.size := by omega
                        have hn5 : ¬ w.heap.size = wr.heap.size := by omega
                        have hblk : wr.heap[w.heap.size]? = some (.cells #[.int .i64 0, .string ⟨#[]⟩, .string ⟨#[]⟩] 42 (0, 0)) := (hbq.block w.heap.size hbw1).trans HBLK.out
                        have rc0 : wr.cell? ⟨w.heap.size, 0, none⟩ = some (.int .i64 0) := cell_of_row wr w.heap.size 0 _ _ (0, 0) hblk
                        have rf0 : wr.frozen? ⟨w.heap.size, 0, none⟩ = false := frozen_of_row wr w.heap.size 0 _ _ hblk
                        have rc1 : wr.cell? ⟨w.heap.size, 1, none⟩ = some (.string ⟨#[]⟩) := cell_of_row wr w.heap.size 1 _ _ (0, 0) hblk
                        have rf1 : wr.frozen? ⟨w.heap.size, 1, none⟩ = false := frozen_of_row wr w.heap.size 1 _ _ hblk
                        have rc2 : wr.cell? ⟨w.heap.size, 2, none⟩ = some (.string ⟨#[]⟩) := cell_of_row wr w.heap.size 2 _ _ (0, 0) hblk
                        have rf2 : wr.frozen? ⟨w.heap.size, 2, none⟩ = false := frozen_of_row wr w.heap.size 2 _ _ hblk
                        clear hblk
                        go_wp2
                        refine bodyPost_ret (v := .tuple #[stV (q : Int) si sj, .bool true]) (by simp [results, Tryz.results85, go_sem, hc2, hz3, hz4, rc0, rc1, rc2]) rfl ⟨by rw [HPV.out], ?_⟩
                        repeat (first | exact hB5 | refine Below.setCell ?_ (by simp <;> omega) _)
                      | false =>
                        have HMQ2 := Lib.hid (miss_k HMQ.out (fun hh => by rw [Hit, Hni.out, Hnj.out] at hh; rw [hh.2] at htx; simp at htx))
                        generalize hst : textS q si sj = tx at *
                        have HST := Lib.hid hst
                        clear hst
                        go_wp2
                        go_region
                        go_wp2_with fail
                        refine (specStmtText q si sj _ (by unfold maxLen; omega) (by unfold maxLen; omega)).mono ?_
                        rw [HST.out]
                        rintro e w2 ⟨rfl, hb2⟩
                        have hB5 : Below W.heap.size W w2 := hB3.trans (hb2.mono hB3.size)
                        go_wp2
                        go_roundw
                        case rel => exact ⟨q + 1, by omega, by omega, by go_num, hB5, HMQ2.out⟩
                        case measure => simp [intOf]; omega
                  · have hq13 : q = 13 := by omega
                    subst hq13
                    have HMJ2 := Lib.hid (miss_j HMQ.out)
                    go_wp2
                    go_roundw
                    case rel => exact ⟨j + 1, by omega, by go_num, hbq, HMJ2.out⟩
                    case measure => simp [intOf]; omega
              · have hje : j = ns.length := by omega
                have HMI2 := Lib.hid (miss_i (hje ▸ HMJ.out))
                clear hje
                go_wp2
                go_roundw
                case rel => exact ⟨i + 1, by omega, by go_num, hbj, HMI2.out⟩
                case measure => simp [intOf]; omega
          · have hie : i = ns.length := by omega
            have HPV := Lib.hid (miss_value (HME.out (hie ▸ HMI.out)))
            clear hie
            have hblk : wi.heap[w.heap.size]? = some (.cells #[.int .i64 0, .string ⟨#[]⟩, .string ⟨#[]⟩] 42 (0, 0)) := (hbi.block w.heap.size hbw1).trans HBLK.out
            have rc0 : wi.cell? ⟨w.heap.size, 0, none⟩ = some (.int .i64 0) := cell_of_row wi w.heap.size 0 _ _ (0, 0) hblk
            have rf0 : wi.frozen? ⟨w.heap.size, 0, none⟩ = false := frozen_of_row wi w.heap.size 0 _ _ hblk
            have rc1 : wi.cell? ⟨w.heap.size, 1, none⟩ = some (.string ⟨#[]⟩) := cell_of_row wi w.heap.size 1 _ _ (0, 0) hblk
            have rf1 : wi.frozen? ⟨w.heap.size, 1, none⟩ = false := frozen_of_row wi w.heap.size 1 _ _ hblk
            have rc2 : wi.cell? ⟨w.heap.size, 2, none⟩ = some (.string ⟨#[]⟩) := cell_of_row wi w.heap.size 2 _ _ (0, 0) hblk
            have rf2 : wi.frozen? ⟨w.heap.size, 2, none⟩ = false := frozen_of_row wi w.heap.size 2 _ _ hblk
            clear hblk
            have hBf := hBw.trans (hbi.mono hBw.size)
            have hz3 : w.heap.size < wi.heap.size := Nat.lt_of_lt_of_le hbw1 hbi.size
            go_wp2
            refine bodyPost_ret (v := .tuple #[stV 0 ⟨#[]⟩ ⟨#[]⟩, .bool false]) (by simp [results, Tryz.results85, go_sem, rc0, rc1, rc2]) rfl ⟨by rw [HPV.out], ?_⟩
            repeat (first | exact hBf | refine Below.setCell ?_ (by simp <;> omega) _)
end Go.Proofs.YtabedmjaodinbaaGreatDoor
