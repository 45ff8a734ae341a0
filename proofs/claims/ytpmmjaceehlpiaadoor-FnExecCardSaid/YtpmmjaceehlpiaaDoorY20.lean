/-
  Several texts of one proof in one file, in the order in which they build.
-/
import Derived.Test.YtpmmjaceehlpiaaDoorRows
import Derived.Test.YtpmmjaceehlpiaaDoorY04
import Derived.Test.YtpmmjaceehlpiaaDoorY03
import Derived.Test.YtpmmjaceehlpiaaDoorY07
import Derived.Test.YtpmmjaceehlpiaaDoorY14
import Derived.Test.YtpmmjaceehlpiaaDoorY19
/-
  The codes of an execution: their names, which are errors: the table of the program, the walks of the program's functions and of the model's.
-/
namespace Go.Proofs.YtpmmjaceehlpiaaDoor
open Go Go.RowKit

def errB (k : Int) : Bool := decide (2 ≤ k) && decide (k ≤ 5)
def codeT (k : Int) : ByteArray := if k = 0 then ⟨#[111, 107]⟩ else if k = 1 then ⟨#[98, 108, 111, 99, 107, 101, 100]⟩ else if k = 2 then ⟨#[110, 117, 108, 108]⟩ else if k = 3 then ⟨#[99, 121, 99, 108, 101]⟩ else if k = 4 then ⟨#[108, 101, 97, 107]⟩ else if k = 5 then ⟨#[100, 97, 110, 103, 108, 105, 110, 103]⟩ else if k = 6 then ⟨#[102, 117, 108, 108]⟩ else if k = 7 then ⟨#[98, 97, 100]⟩ else ⟨#[63]⟩
theorem codes8 {k : Int} (h : 0 ≤ k ∧ k ≤ 7) : k = 0 ∨ k = 1 ∨ k = 2 ∨ k = 3 ∨ k = 4 ∨ k = 5 ∨ k = 6 ∨ k = 7 := by omega
theorem codeT_none {k : Int} (h : ¬ (0 ≤ k ∧ k ≤ 7)) : codeT k = ⟨#[63]⟩ := by
  unfold codeT
  rw [if_neg (by omega), if_neg (by omega), if_neg (by omega), if_neg (by omega), if_neg (by omega), if_neg (by omega), if_neg (by omega), if_neg (by omega)]

theorem implIsError (k : Int) (w : World) : Calls Tryd.prog 13 #[.int .i64 k] w fun e w' => e = .returned (.bool (errB k)) ∧ w = w' := by
  by_cases h : 2 ≤ k ∧ k ≤ 5
  · have h' : k = 2 ∨ k = 3 ∨ k = 4 ∨ k = 5 := by omega
    rcases h' with rfl | rfl | rfl | rfl
    all_goals
      clear h
      go_enter Tryd.func13, Tryd.ntmps13
      go_wp2
      go_ret
      exact ⟨rfl, rfl⟩
  · rw [show errB k = false from by simp [errB]; omega]
    have h2 : (k == 2) = false := by simp only [beq_eq_false_iff_ne, ne_eq]; omega
    have h3 : (k == 3) = false := by simp only [beq_eq_false_iff_ne, ne_eq]; omega
    have h4 : (k == 4) = false := by simp only [beq_eq_false_iff_ne, ne_eq]; omega
    have h5 : (k == 5) = false := by simp only [beq_eq_false_iff_ne, ne_eq]; omega
    clear h
    go_enter Tryd.func13, Tryd.ntmps13
    go_wp2
    go_ret
    exact ⟨rfl, rfl⟩
theorem specIsError (k : Int) (w : World) : Calls Tryd.prog 14 #[.int .i64 k] w fun e w' => e = .returned (.bool (errB k)) ∧ w = w' := by
  go_enter Tryd.func14, Tryd.ntmps14
  go_wp2_with fail
  refine (specIn k 2 5 _).mono ?_
  rintro e w1 ⟨rfl, rfl⟩
  go_wp2
  go_ret
  exact ⟨rfl, rfl⟩

def HasCodeNames (w : World) : Prop := w.var? Tryd.prog "loop.example/g00590/impl.codeNames" = some #[Value.string ⟨#[111, 107]⟩, .string ⟨#[98, 108, 111, 99, 107, 101, 100]⟩, .string ⟨#[110, 117, 108, 108]⟩, .string ⟨#[99, 121, 99, 108, 101]⟩, .string ⟨#[108, 101, 97, 107]⟩, .string ⟨#[100, 97, 110, 103, 108, 105, 110, 103]⟩, .string ⟨#[102, 117, 108, 108]⟩, .string ⟨#[98, 97, 100]⟩]
theorem HasCodeNames.keeps {w w' : World} (h : HasCodeNames w) (hb : Below w.heap.size w w') : HasCodeNames w' := var_stays h hb
theorem gCodeNames : Tryd.prog.globalNamed "loop.example/g00590/impl.codeNames" = some 0 := by kernel_rfl
theorem codeNames_of {W : World} (i : Nat) {l : List (String × DataW Unit)} (h : laidMet Tryd.prog l W) (hi : l[i]? = some ("loop.example/g00590/impl.codeNames", Rows.laid_loop_example_g00590_impl_codeNames)) : HasCodeNames W :=
  (laid_at (t := 74) i h hi gCodeNames (by kernel_rfl) (by kernel_rfl)).trans (congrArg some (show (flat Rows.laid_loop_example_g00590_impl_codeNames).toArray = _ by kernel_rfl))
theorem HasCodeNames.cell {w : World} (h : HasCodeNames w) (i : Nat) : w.cell? ⟨0, i, none⟩ = (#[Value.string ⟨#[111, 107]⟩, .string ⟨#[98, 108, 111, 99, 107, 101, 100]⟩, .string ⟨#[110, 117, 108, 108]⟩, .string ⟨#[99, 121, 99, 108, 101]⟩, .string ⟨#[108, 101, 97, 107]⟩, .string ⟨#[100, 97, 110, 103, 108, 105, 110, 103]⟩, .string ⟨#[102, 117, 108, 108]⟩, .string ⟨#[98, 97, 100]⟩])[i]? := World.var?_cell gCodeNames h i

set_option maxHeartbeats 800000 in
theorem implExecName (k : Int) (w : World) (hT : HasCodeNames w) : Calls Tryd.prog 11 #[.int .i64 k] w fun e w' => e = .returned (.string (codeT k)) ∧ w = w' := by
  by_cases h : 0 ≤ k ∧ k ≤ 7
  · have c0 : w.cell? ⟨0, 0, none⟩ = some (.string ⟨#[111, 107]⟩) := hT.cell 0
    have c1 : w.cell? ⟨0, 1, none⟩ = some (.string ⟨#[98, 108, 111, 99, 107, 101, 100]⟩) := hT.cell 1
    have c2 : w.cell? ⟨0, 2, none⟩ = some (.string ⟨#[110, 117, 108, 108]⟩) := hT.cell 2
    have c3 : w.cell? ⟨0, 3, none⟩ = some (.string ⟨#[99, 121, 99, 108, 101]⟩) := hT.cell 3
    have c4 : w.cell? ⟨0, 4, none⟩ = some (.string ⟨#[108, 101, 97, 107]⟩) := hT.cell 4
    have c5 : w.cell? ⟨0, 5, none⟩ = some (.string ⟨#[100, 97, 110, 103, 108, 105, 110, 103]⟩) := hT.cell 5
    have c6 : w.cell? ⟨0, 6, none⟩ = some (.string ⟨#[102, 117, 108, 108]⟩) := hT.cell 6
    have c7 : w.cell? ⟨0, 7, none⟩ = some (.string ⟨#[98, 97, 100]⟩) := hT.cell 7
    rcases codes8 h with rfl | rfl | rfl | rfl | rfl | rfl | rfl | rfl
    all_goals
      clear h hT
      go_enter Tryd.func11, Tryd.ntmps11
      go_wp2
      go_ret
      exact ⟨rfl, rfl⟩
  · rw [codeT_none h]
    by_cases h1 : k < 0
    · go_enter Tryd.func11, Tryd.ntmps11
      go_wp2
      go_ret
      exact ⟨rfl, rfl⟩
    · have h2 : 8 ≤ k := by omega
      go_enter Tryd.func11, Tryd.ntmps11
      go_wp2
      go_ret
      exact ⟨rfl, rfl⟩
set_option maxHeartbeats 800000 in
theorem specExecName (k : Int) (w : World) : Calls Tryd.prog 12 #[.int .i64 k] w fun e w' => e = .returned (.string (codeT k)) ∧ Below w.heap.size w w' := by
  by_cases h : 0 ≤ k ∧ k ≤ 7
  · rcases codes8 h with rfl | rfl | rfl | rfl | rfl | rfl | rfl | rfl
    all_goals
      clear h
      go_enter Tryd.func12, Tryd.ntmps12
      go_wp2_with fail
      refine (specIn _ 0 7 _).mono ?_
      rintro e w1 ⟨rfl, rfl⟩
      go_wp2
      go_ret
      exact ⟨rfl, (Below.refl _ _).alloc (Nat.le_refl _) _⟩
  · rw [codeT_none h]
    have hd : (decide (0 ≤ k) && decide (k ≤ 7)) = false := by
      rw [← Bool.decide_and]
      exact decide_eq_false h
    go_enter Tryd.func12, Tryd.ntmps12
    go_wp2_with fail
    refine (specIn k 0 7 _).mono ?_
    rw [hd]
    rintro e w1 ⟨rfl, rfl⟩
    go_wp2
    go_ret
    exact ⟨rfl, Below.refl _ _⟩
end Go.Proofs.YtpmmjaceehlpiaaDoor
/-
  Pure: what a statement makes of a valid heap is a valid heap: no action lays a ring.
-/
namespace Go.Proofs.YtpmmjaceehlpiaaDoor
open Go Go.RowKit

/-- From c it is r steps to null. -/
def EndsIn (zs : List Int) : Nat → Int → Prop
  | 0, c => c = -1
  | n + 1, c => isC zs c = true ∧ EndsIn zs n (nextC zs c)
def Ends (zs : List Int) (c : Int) : Prop := ∃ r, EndsIn zs r c
theorem Ends.stop {zs : List Int} : Ends zs (-1) := ⟨0, rfl⟩
theorem Ends.step {zs : List Int} {c : Int} (h : isC zs c = true) (k : Ends zs (nextC zs c)) : Ends zs c := k.elim fun r hr => ⟨r + 1, h, hr⟩
theorem endsIn_one {zs : List Int} : ∀ {r s : Nat} {c : Int}, EndsIn zs r c → EndsIn zs s c → r = s
  | 0, 0, _, _, _ => rfl
  | 0, s + 1, c, h, k => by
    obtain rfl : c = -1 := h
    have := k.1
    rw [isC_minus] at this
    cases this
  | r + 1, 0, c, h, k => by
    obtain rfl : c = -1 := k
    have := h.1
    rw [isC_minus] at this
    cases this
  | r + 1, s + 1, _, h, k => by rw [endsIn_one h.2 k.2]
theorem ends_of_acyc {zs : List Int} (ha : acyc zs = true) {c : Int} (h : c = -1 ∨ isC zs c = true) : Ends zs c := by
  rcases h with rfl | h
  · exact Ends.stop
  · obtain ⟨k, rfl, hk⟩ := isC_nat h
    refine Classical.byContradiction fun hno => ?_
    have h1 := List.all_eq_true.1 ha (k : Int) (upTo_mem.2 (by omega))
    unfold acycAt at h1
    split at h1
    · cases h1
    · rename_i x hx
      have hmem : x ∈ followed zs (k : Int) := List.mem_of_getLast? hx
      have hch : x ∈ chain zs zs.length (k : Int) := by
        unfold followed at hmem
        split at hmem
        · cases hmem
        · simpa using addAll_mem.1 hmem
      have hq := chain_all (Q := fun y => ¬ Ends zs y) (fun y hy hn _ he => hn (Ends.step hy he)) (fun _ => hno) hch
      have hn : nextC zs x = -1 := of_decide_eq_true h1
      exact hq (Ends.step (chain_cells hch) (by rw [hn]; exact Ends.stop))
theorem addAll_new : ∀ {l o : List Int}, l.Nodup → (∀ x ∈ l, x ∉ o) → addAll o l = o ++ l
  | [], o, _, _ => by simp [addAll]
  | c :: cs, o, hn, hno => by
    have hc := hno c (by simp)
    rw [List.nodup_cons] at hn
    rw [addAll, if_neg hc, addAll_new hn.2 (fun x hx hm => by
      rcases List.mem_append.1 hm with hm | hm
      · exact hno x (by simp [hx]) hm
      · obtain rfl : x = c := by simpa using hm
        exact hn.1 hx)]
    simp
/-- The way to null: each cell once, the last one's next is null. -/
theorem chain_ends {zs : List Int} : ∀ {r n : Nat} {c : Int}, EndsIn zs (r + 1) c → r + 1 ≤ n → (chain zs n c).length = r + 1 ∧ (∃ l x, chain zs n c = l ++ [x] ∧ nextC zs x = -1) ∧ (chain zs n c).Nodup ∧ ∀ x ∈ chain zs n c, ∃ s, s ≤ r + 1 ∧ EndsIn zs s x
  | r, 0, _, _, hn => by omega
  | 0, n + 1, c, h, _ => by
    have hn : nextC zs c = -1 := h.2
    have hc : chain zs n (-1) = [] := by
      cases n with
      | zero => rfl
      | succ n => simp [chain, isC_minus]
    simp only [chain, h.1, if_true, hn, hc]
    exact ⟨rfl, ⟨[], c, rfl, hn⟩, by simp, fun x hx => have e : x = c := (by simpa using hx); ⟨1, Nat.le_refl _, e ▸ h⟩⟩
  | r + 1, n + 1, c, h, hn => by
    obtain ⟨h1, ⟨l, x, h2, h3⟩, h4, h5⟩ := chain_ends (n := n) h.2 (by omega)
    have h0 := h.1
    simp only [chain, h0, if_true]
    refine ⟨by rw [List.length_cons, h1], ⟨c :: l, x, by rw [h2]; rfl, h3⟩, ?_, fun y hy => ?_⟩
    · rw [List.nodup_cons]
      refine ⟨fun hm => ?_, h4⟩
      obtain ⟨s, hs, hE⟩ := h5 c hm
      have := endsIn_one hE h
      omega
    · rcases List.mem_cons.1 hy with rfl | hy
      · exact ⟨_, Nat.le_refl _, h⟩
      · obtain ⟨s, hs, hE⟩ := h5 y hy
        exact ⟨s, by omega, hE⟩
theorem acyc_of_ends {zs : List Int} (hg : goodB zs zs = true) (h : ∀ c, isC zs c = true → Ends zs c) : acyc zs = true := by
  rw [acyc, List.all_eq_true]
  intro k hk
  have hc : isC zs k = true := isC_iff.2 (upTo_mem.1 hk)
  obtain ⟨r, hr⟩ := h k hc
  cases r with
  | zero =>
    obtain rfl : k = -1 := hr
    rw [isC_minus] at hc
    cases hc
  | succ r =>
    obtain ⟨hl, _, hnd, _⟩ := chain_ends (n := r + 1) hr (Nat.le_refl _)
    have hle := nodup_cells hnd fun x hx => chain_cells hx
    obtain ⟨_, ⟨l, x, h2, h3⟩, hnd2, _⟩ := chain_ends (n := zs.length) hr (by omega)
    have hf : followed zs k = l ++ [x] := by
      rw [followed_good hg (.inr hc), addAll_new hnd2 (by simp), h2]
      rfl
    unfold acycAt
    rw [hf, List.getLast?_append]
    simp [h3]

theorem isC_len {zs ys : List Int} (h : zs.length = ys.length) (c : Int) : isC zs c = isC ys c := by simp [isC, h]
theorem set_next {zs : List Int} {k : Nat} (_hk : k < zs.length) (y : Int) {c : Int} (hc : isC zs c = true) : nextC (zs.set k y) c = if c = (k : Int) then y else nextC zs c := by
  obtain ⟨j, rfl, hj⟩ := isC_nat hc
  rw [nextC_at (by rw [List.length_set]; exact hj), nextC_at hj, List.getElem_set]
  by_cases h : k = j
  · subst h
    rw [if_pos rfl, if_pos rfl]
  · rw [if_neg h, if_neg (by omega)]
/-- A cell's next is cut off. -/
theorem ends_cut {zs : List Int} {k : Nat} (hk : k < zs.length) : ∀ {r : Nat} {c : Int}, EndsIn zs r c → Ends (zs.set k (-1)) c
  | 0, c, h => by
    obtain rfl : c = -1 := h
    exact Ends.stop
  | r + 1, c, h => by
    refine Ends.step (by rw [isC_len (List.length_set)]; exact h.1) ?_
    rw [set_next hk _ h.1]
    split
    · exact Ends.stop
    · exact ends_cut hk h.2
/-- A cell k is linked to b, from which k is not met. -/
theorem ends_far {zs : List Int} {k : Nat} {b : Int} (hk : k < zs.length) : ∀ {r n : Nat} {c : Int}, EndsIn zs r c → r ≤ n → (k : Int) ∉ chain zs n c → Ends (zs.set k b) c
  | 0, _, c, h, _, _ => by
    obtain rfl : c = -1 := h
    exact Ends.stop
  | r + 1, 0, _, _, hn, _ => by omega
  | r + 1, n + 1, c, h, hn, hno => by
    have h0 := h.1
    simp only [chain, h0, if_true, List.mem_cons, not_or] at hno
    refine Ends.step (by rw [isC_len (List.length_set)]; exact h.1) ?_
    rw [set_next hk _ h.1, if_neg (Ne.symm hno.1)]
    exact ends_far hk h.2 (by omega) hno.2
theorem ends_link {zs : List Int} {k : Nat} {b : Int} (hk : k < zs.length) (hb : Ends (zs.set k b) b) : ∀ {r : Nat} {c : Int}, EndsIn zs r c → Ends (zs.set k b) c
  | 0, c, h => by
    obtain rfl : c = -1 := h
    exact Ends.stop
  | r + 1, c, h => by
    refine Ends.step (by rw [isC_len (List.length_set)]; exact h.1) ?_
    rw [set_next hk _ h.1]
    split
    · exact hb
    · exact ends_link hk hb h.2
/-- A cell more. -/
theorem ends_new {zs : List Int} : ∀ {r : Nat} {c : Int}, EndsIn zs r c → Ends (zs ++ [-1]) c
  | 0, c, h => by
    obtain rfl : c = -1 := h
    exact Ends.stop
  | r + 1, c, h => by
    have h0 := isC_iff.1 h.1
    obtain ⟨j, rfl, hj⟩ := isC_nat h.1
    refine Ends.step (isC_iff.2 ⟨h0.1, by simp; omega⟩) ?_
    rw [nextC_at (by simp; omega), List.getElem_append_left hj, ← nextC_at hj]
    exact ends_new h.2
/-- The canonical heap. -/
theorem ends_canon {vs zs : List Int} : ∀ {r : Nat} {c : Int}, EndsIn zs r c → c = -1 ∨ c ∈ order vs zs → Ends (canonN vs zs) (num (order vs zs) c)
  | 0, c, h, _ => by
    obtain rfl : c = -1 := h
    rw [num_minus (order_end vs zs).toOrdOk]
    exact Ends.stop
  | r + 1, c, h, hm => by
    rcases hm with rfl | hm
    · rw [num_minus (order_end vs zs).toOrdOk]
      exact Ends.stop
    · obtain ⟨h1, h2⟩ := canon_next hm
      refine Ends.step h1 ?_
      rw [h2]
      by_cases hc : isC zs (nextC zs c) = true
      · exact ends_canon h.2 (.inr ((order_end vs zs).closed c hm hc))
      · refine ends_canon h.2 (.inl ?_)
        have h3 := h.2
        cases r with
        | zero => exact h3
        | succ r => exact absurd h3.1 hc
/-- A cell without pointers to it is freed. -/
theorem low_cell {zs : List Int} {k : Nat} (hk : k < zs.length) {c : Int} (hc : isC zs c = true) (hne : c ≠ (k : Int)) : isC ((zs.eraseIdx k).map (lowC k)) (lowC k c) = true ∧ nextC ((zs.eraseIdx k).map (lowC k)) (lowC k c) = lowC k (nextC zs c) := by
  have hl : ((zs.eraseIdx k).map (lowC k)).length = zs.length - 1 := by rw [List.length_map, List.length_eraseIdx, if_pos hk]
  obtain ⟨j, rfl, hj⟩ := isC_nat hc
  by_cases h : k < j
  · have e : lowC k (j : Int) = ((j - 1 : Nat) : Int) := by
      unfold lowC
      rw [if_pos (by omega)]
      omega
    have hj' : j - 1 < ((zs.eraseIdx k).map (lowC k)).length := by omega
    rw [e]
    refine ⟨isC_of hj', ?_⟩
    rw [nextC_at hj', nextC_at hj, List.getElem_map, List.getElem_eraseIdx]
    rw [dif_neg (by omega)]
    congr 2
    omega
  · have e : lowC k (j : Int) = (j : Int) := by
      unfold lowC
      rw [if_neg (by omega)]
    have hj' : j < ((zs.eraseIdx k).map (lowC k)).length := by omega
    rw [e]
    refine ⟨isC_of hj', ?_⟩
    rw [nextC_at hj', nextC_at hj, List.getElem_map, List.getElem_eraseIdx, dif_pos (by omega)]
theorem ends_free {zs : List Int} {k : Nat} (hk : k < zs.length) (hno : (k : Int) ∉ zs) : ∀ {r : Nat} {c : Int}, EndsIn zs r c → c ≠ (k : Int) → Ends ((zs.eraseIdx k).map (lowC k)) (lowC k c)
  | 0, c, h, _ => by
    obtain rfl : c = -1 := h
    have : lowC k (-1) = -1 := if_neg (by omega)
    rw [this]
    exact Ends.stop
  | r + 1, c, h, hne => by
    obtain ⟨h1, h2⟩ := low_cell hk h.1 hne
    refine Ends.step h1 ?_
    rw [h2]
    refine ends_free hk hno h.2 fun e => hno ?_
    obtain ⟨j, rfl, hj⟩ := isC_nat h.1
    rw [nextC_at hj] at e
    rw [← e]
    exact List.getElem_mem hj

def Good (zs l : List Int) : Prop := ∀ x ∈ l, x = -1 ∨ isC zs x = true
theorem good_iff {zs l : List Int} : goodB zs l = true ↔ Good zs l := by
  simp [goodB, Good, List.all_eq_true]
theorem Good.set_ {zs l : List Int} (h : Good zs l) {k : Nat} {y : Int} (hy : y = -1 ∨ isC zs y = true) : Good zs (l.set k y) := fun x hx => by
  rcases List.mem_or_eq_of_mem_set hx with hx | rfl
  · exact h x hx
  · exact hy
theorem Good.len_ {zs ys l : List Int} (h : Good zs l) (e : zs.length = ys.length) : Good ys l := fun x hx => (h x hx).imp id fun h1 => by rw [← isC_len e]; exact h1
theorem Good.at_ {zs l : List Int} (h : Good zs l) {k : Nat} (hk : k < l.length) : l.getD k (-1) = -1 ∨ isC zs (l.getD k (-1)) = true := by
  have e : l.getD k (-1) = l[k] := by simp [hk]
  rw [e]
  exact h _ (List.getElem_mem hk)
/-- A heap that a statement makes, ahead of the leak. -/
structure Sound (n : Nat) (us ys : List Int) : Prop where
  len : us.length = n
  six : ys.length ≤ 6
  gv : Good ys us
  gz : Good ys ys
  ends : ∀ c, isC ys c = true → Ends ys c
theorem Sound.all {n : Nat} {us ys : List Int} (h : Sound n us ys) {c : Int} (hc : c = -1 ∨ isC ys c = true) : Ends ys c := by
  rcases hc with rfl | hc
  · exact Ends.stop
  · exact h.ends c hc
theorem Sound.setV {n : Nat} {us ys : List Int} (h : Sound n us ys) (k : Nat) {y : Int} (hy : y = -1 ∨ isC ys y = true) : Sound n (us.set k y) ys := ⟨by rw [List.length_set]; exact h.len, h.six, h.gv.set_ hy, h.gz, h.ends⟩
theorem Sound.setZ {n : Nat} {us ys : List Int} (h : Sound n us ys) {k : Nat} {y : Int} (hy : y = -1 ∨ isC ys y = true) (he : ∀ c, isC ys c = true → Ends (ys.set k y) c) : Sound n us (ys.set k y) :=
  ⟨h.len, by rw [List.length_set]; exact h.six, h.gv.len_ List.length_set.symm, (h.gz.set_ hy).len_ List.length_set.symm, fun c hc => he c (by rw [isC_len List.length_set.symm]; exact hc)⟩
theorem sound_of {n : Int} {vs zs : List Int} (h : heapB n vs zs = true) : Sound vs.length vs zs := by
  obtain ⟨_, h6, hgv, hgz, ha⟩ := heapB_parts h
  exact ⟨rfl, h6, good_iff.1 hgv, good_iff.1 hgz, fun c hc => ends_of_acyc ha (.inr hc)⟩
theorem sound_new {n : Nat} {us ys : List Int} (h : Sound n us ys) (k : Nat) (h6 : ys.length ≠ 6) : Sound n (us.set k (ys.length : Int)) (ys ++ [-1]) := by
  have hup : ∀ x, isC ys x = true → isC (ys ++ [-1]) x = true := fun x hx => by
    have := isC_iff.1 hx
    exact isC_iff.2 ⟨this.1, by simp; omega⟩
  have h6' := h.six
  refine ⟨by rw [List.length_set]; exact h.len, by simp; omega, ?_, ?_, fun c hc => ?_⟩
  · exact Good.set_ (fun x hx => (h.gv x hx).imp id (hup x)) (.inr (isC_iff.2 ⟨by omega, by simp; omega⟩))
  · intro x hx
    rcases List.mem_append.1 hx with hx | hx
    · exact (h.gz x hx).imp id (hup x)
    · exact .inl (by simpa using hx)
  · by_cases hold : isC ys c = true
    · obtain ⟨r, hr⟩ := h.ends c hold
      exact ends_new hr
    · obtain ⟨j, rfl, hj⟩ := isC_nat hc
      have hj' : j = ys.length := by
        have : ¬ j < ys.length := fun hl => hold (isC_of hl)
        simp at hj
        omega
      refine Ends.step hc ?_
      rw [nextC_at hj]
      have e : (ys ++ [-1])[j]'hj = -1 := by
        subst hj'
        simp
      rw [e]
      exact Ends.stop
theorem sound_free {n : Nat} {us ys : List Int} (h : Sound n us ys) {c : Nat} (hc : c < ys.length) {ws : List Int} (hws : Good ys ws) (hl : ws.length = n) (h1 : (c : Int) ∉ ws) (h2 : (c : Int) ∉ ys) : Sound n (ws.map (lowC c)) ((ys.eraseIdx c).map (lowC c)) := by
  have hm : lowC c (-1) = -1 := if_neg (by omega)
  have key : ∀ y : Int, (y = -1 ∨ isC ys y = true) → y ≠ (c : Int) → lowC c y = -1 ∨ isC ((ys.eraseIdx c).map (lowC c)) (lowC c y) = true := fun y hy hne => by
    rcases hy with rfl | hy
    · exact .inl hm
    · exact .inr (low_cell hc hy hne).1
  have hle : ((ys.eraseIdx c).map (lowC c)).length = ys.length - 1 := by rw [List.length_map, List.length_eraseIdx, if_pos hc]
  have h6 := h.six
  refine ⟨by rw [List.length_map]; exact hl, by omega, fun x hx => ?_, fun x hx => ?_, fun x hx => ?_⟩
  · obtain ⟨y, hy, rfl⟩ := List.mem_map.1 hx
    exact key y (hws y hy) (fun e => h1 (e ▸ hy))
  · obtain ⟨y, hy, rfl⟩ := List.mem_map.1 hx
    have hy := List.mem_of_mem_eraseIdx hy
    exact key y (h.gz y hy) (fun e => h2 (e ▸ hy))
  · obtain ⟨j, rfl, hj⟩ := isC_nat hx
    rw [hle] at hj
    by_cases hjc : j < c
    · have e : lowC c (j : Int) = (j : Int) := if_neg (by omega)
      obtain ⟨r, hr⟩ := h.ends (j : Int) (isC_of (by omega))
      rw [← e]
      exact ends_free hc h2 hr (by omega)
    · have e : lowC c ((j + 1 : Nat) : Int) = (j : Int) := by
        unfold lowC
        rw [if_pos (by omega)]
        omega
      obtain ⟨r, hr⟩ := h.ends ((j + 1 : Nat) : Int) (isC_of (by omega))
      rw [← e]
      exact ends_free hc h2 hr (by omega)
theorem act_inj {vs zs us ys : List Int} (h : ((0 : Int), vs, zs) = (0, us, ys)) : vs = us ∧ zs = ys := by
  injection h with _ h
  injection h with h1 h2
  exact ⟨h1, h2⟩
theorem bad_no {k : Int} {us ys : List Int} (hk : k ≠ 0) (h : badC k = (0, us, ys)) : False := hk (congrArg Prod.fst h)
theorem ite_parts {α : Type} {c : Prop} [Decidable c] {x y r : α} (h : (if c then x else y) = r) : (c ∧ x = r) ∨ (¬ c ∧ y = r) := by
  by_cases hc : c
  · exact .inl ⟨hc, by rwa [if_pos hc] at h⟩
  · exact .inr ⟨hc, by rwa [if_neg hc] at h⟩
set_option maxHeartbeats 800000 in
theorem do_sound {k : Int} {pa pb : Nat} {vs zs us ys : List Int} (h : Sound vs.length vs zs) (hpa : pa < vs.length) (hpb : pb < vs.length) (hd : doS k pa pb vs zs = (0, us, ys)) : Sound vs.length us ys := by
  have ga := h.gv.at_ hpa
  have gb := h.gv.at_ hpb
  generalize hx : vs.getD pa (-1) = x at *
  generalize hy : vs.getD pb (-1) = y at *
  unfold doS linkS freeS at hd
  rw [hx, hy] at hd
  rcases ite_parts hd with ⟨_, hd⟩ | ⟨_, hd⟩
  · obtain ⟨rfl, rfl⟩ := act_inj hd
    exact h
  rcases ite_parts hd with ⟨_, hd⟩ | ⟨_, hd⟩
  · obtain ⟨rfl, rfl⟩ := act_inj hd
    exact h.setV pa (.inl rfl)
  rcases ite_parts hd with ⟨_, hd⟩ | ⟨_, hd⟩
  · rcases ite_parts hd with ⟨_, hd⟩ | ⟨h6, hd⟩
    · exact (bad_no (by decide) hd).elim
    · obtain ⟨rfl, rfl⟩ := act_inj hd
      exact sound_new h pa h6
  rcases ite_parts hd with ⟨_, hd⟩ | ⟨_, hd⟩
  · obtain ⟨rfl, rfl⟩ := act_inj hd
    exact h.setV pa gb
  rcases ite_parts hd with ⟨_, hd⟩ | ⟨_, hd⟩
  · rcases ite_parts hd with ⟨_, hd⟩ | ⟨hne, hd⟩
    · exact (bad_no (by decide) hd).elim
    · obtain ⟨rfl, rfl⟩ := act_inj hd
      exact h.setV pa (nextC_good (good_iff.2 h.gz) (gb.resolve_left hne))
  rcases ite_parts hd with ⟨_, hd⟩ | ⟨_, hd⟩
  · rcases ite_parts hd with ⟨_, hd⟩ | ⟨hne, hd⟩
    · exact (bad_no (by decide) hd).elim
    · obtain ⟨rfl, rfl⟩ := act_inj hd
      obtain ⟨c, rfl, hc⟩ := isC_nat (ga.resolve_left hne)
      rw [Int.toNat_natCast]
      exact h.setZ (.inl rfl) fun d hd => (h.ends d hd).elim fun r hr => ends_cut hc hr
  rcases ite_parts hd with ⟨_, hd⟩ | ⟨_, hd⟩
  · rcases ite_parts hd with ⟨_, hd⟩ | ⟨hne, hd⟩
    · exact (bad_no (by decide) hd).elim
    · rcases ite_parts hd with ⟨_, hd⟩ | ⟨hno, hd⟩
      · exact (bad_no (by decide) hd).elim
      · obtain ⟨rfl, rfl⟩ := act_inj hd
        obtain ⟨c, rfl, hc⟩ := isC_nat (ga.resolve_left hne)
        rw [Int.toNat_natCast]
        have hb : Ends (zs.set c y) y := by
          obtain ⟨r, hr⟩ := h.all gb
          cases r with
          | zero =>
            obtain rfl : y = -1 := hr
            exact Ends.stop
          | succ r =>
            obtain ⟨hl, _, hnd, _⟩ := chain_ends (n := r + 1) hr (Nat.le_refl _)
            have hle := nodup_cells hnd fun x hx => chain_cells hx
            refine ends_far hc hr (n := zs.length) (by omega) fun hm => hno ?_
            rw [followed_good (good_iff.2 h.gz) gb]
            exact addAll_mem.2 (.inr hm)
        exact h.setZ gb fun d hd => (h.ends d hd).elim fun r hr => ends_link hc hb hr
  rcases ite_parts hd with ⟨_, hd⟩ | ⟨_, hd⟩
  · rcases ite_parts hd with ⟨_, hd⟩ | ⟨hne, hd⟩
    · exact (bad_no (by decide) hd).elim
    · rcases ite_parts hd with ⟨_, hd⟩ | ⟨hno, hd⟩
      · exact (bad_no (by decide) hd).elim
      · obtain ⟨rfl, rfl⟩ := act_inj hd
        obtain ⟨c, rfl, hc⟩ := isC_nat (ga.resolve_left hne)
        rw [Int.toNat_natCast]
        exact sound_free h hc (h.gv.set_ (.inl rfl)) List.length_set (fun e => hno (.inl e)) (fun e => hno (.inr e))
  have two : ∀ {c : Prop} [Decidable c] {u v : Act3}, (if c then u else v) = (0, us, ys) → (u = (0, us, ys) → Sound vs.length us ys) → (v = (0, us, ys) → Sound vs.length us ys) → Sound vs.length us ys := fun e f g => by
    rcases ite_parts e with ⟨_, e⟩ | ⟨_, e⟩
    · exact f e
    · exact g e
  have ok : ((0 : Int), vs, zs) = (0, us, ys) → Sound vs.length us ys := fun e => by
    obtain ⟨rfl, rfl⟩ := act_inj e
    exact h
  have no : badC 1 = (0, us, ys) → Sound vs.length us ys := fun e => (bad_no (by decide) e).elim
  exact two hd (fun e => two e ok no) fun e => two e (fun e => two e no ok) fun e => two e (fun e => two e ok no) fun e => two e no ok
/-- The answer is a valid heap. -/
theorem canon_heap {n : Nat} {us ys : List Int} (h : Sound n us ys) (hn : 1 ≤ n ∧ n ≤ 4) : heapB (n : Int) (canonVs us ys) (canonNs us ys) = true := by
  have hg : goodH us ys = true := by rw [goodH, good_iff.2 h.gv, good_iff.2 h.gz]; rfl
  have hO := order_end us ys
  have hcg := canon_good us ys
  have hl : (canonN us ys).length = (order us ys).length := by simp [canonN]
  have hle := hO.len
  have h6 := h.six
  have hlen := h.len
  rw [canonVs, canonNs, if_pos hg, if_pos hg]
  simp only [heapB, Bool.and_eq_true, decide_eq_true_eq]
  refine ⟨⟨⟨⟨by omega, by omega, by simp [canonV, hlen], by omega⟩, hcg⟩, ?_⟩, order_canon us ys⟩
  refine acyc_of_ends (goodH_parts hcg).2 fun c hc => ?_
  obtain ⟨j, rfl, hj⟩ := isC_nat hc
  rw [hl] at hj
  have hm : (order us ys)[j] ∈ order us ys := List.getElem_mem hj
  obtain ⟨r, hr⟩ := h.ends _ (hO.cells _ hm)
  have := ends_canon (vs := us) hr (.inr hm)
  rwa [num_at hO.nodup hj] at this
end Go.Proofs.YtpmmjaceehlpiaaDoor
/-
  Pure: what Exec answers is a valid heap; of a test and its opposite exactly one lets the heap stay, the other blocks.
-/
namespace Go.Proofs.YtpmmjaceehlpiaaDoor
open Go Go.RowKit

theorem place_lt {ss : List ByteArray} (a : ByteArray) (h : 1 ≤ ss.length) : (place ss a).toNat < ss.length := by
  by_cases h0 : 0 ≤ place ss a
  · have := place_in h0
    omega
  · omega
theorem exec_heap {ss : List ByteArray} {k : Int} {a b : ByteArray} {vs zs ps qs : List Int} (h : execS ss k a b vs zs = (0, ps, qs)) : heapB (ss.length : Int) ps qs = true := by
  unfold execS at h
  rcases ite_parts h with ⟨⟨_, h2⟩, h⟩ | ⟨_, h⟩
  · rcases ite_parts h with ⟨h0, h⟩ | ⟨h0, h⟩
    · rcases ite_parts h with ⟨_, h⟩ | ⟨_, h⟩
      · exact (bad_no (by decide) h).elim
      · obtain ⟨rfl, rfl⟩ := act_inj h
        obtain ⟨hv, _⟩ := heapB_parts h2
        have hl : vs.length = ss.length := by omega
        have hs := do_sound (k := k) (pa := (place ss a).toNat) (pb := (place ss b).toNat) (us := (doS k (place ss a).toNat (place ss b).toNat vs zs).2.1) (ys := (doS k (place ss a).toNat (place ss b).toNat vs zs).2.2) (sound_of h2) (by rw [hl]; exact place_lt a (by omega)) (by rw [hl]; exact place_lt b (by omega)) (Prod.ext h0 rfl)
        rw [hl] at hs
        exact canon_heap hs (by omega)
    · exact absurd (congrArg Prod.fst h) h0
  · exact (bad_no (by decide) h).elim
theorem exec_test {ss : List ByteArray} {k : Int} {a b : ByteArray} {vs zs : List Int} (h1 : stmtB ss k a b = true) (h2 : heapB (ss.length : Int) vs zs = true) (ht : isTestS k = true) :
    execS ss k a b vs zs = if testB k (vs.getD (place ss a).toNat (-1)) (vs.getD (place ss b).toNat (-1)) = true then (0, vs, zs) else badC 1 := by
  obtain ⟨c1, c2, hl⟩ := heap_stays h2
  by_cases hb : testB k (vs.getD (place ss a).toNat (-1)) (vs.getD (place ss b).toNat (-1)) = true
  · rw [if_pos hb, exec_ok h1 h2 (do_passed ht hb) hl, c1, c2]
  · rw [if_neg hb]
    exact exec_code h1 h2 (do_blocked ht (by simpa using hb)) (by decide)
theorem test_opp {k : Int} (ht : isTestS k = true) (x y : Int) : testB (oppS k) x y = !testB k x y := by
  rcases isTestS_four ht with rfl | rfl | rfl | rfl
  all_goals simp [testB, oppS]
theorem opp_test {k : Int} (ht : isTestS k = true) : isTestS (oppS k) = true := by
  rcases isTestS_four ht with rfl | rfl | rfl | rfl
  all_goals simp [oppS, isTestS]
theorem opp_stmt {ss : List ByteArray} {k : Int} {a b : ByteArray} (ht : isTestS k = true) : stmtB ss (oppS k) a b = stmtB ss k a b := by
  have e : namesN (oppS k) = namesN k := by
    rcases isTestS_four ht with rfl | rfl | rfl | rfl
    all_goals decide
  unfold stmtB
  rw [e]
end Go.Proofs.YtpmmjaceehlpiaaDoor
