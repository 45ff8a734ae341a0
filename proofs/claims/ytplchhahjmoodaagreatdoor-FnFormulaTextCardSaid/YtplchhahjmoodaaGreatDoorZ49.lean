/-
  The program's guess of a text: the parts are collected, then read.
-/
import Derived.RangeFuncBox
import Derived.RangeFuncWrites
import Derived.Maps.AppendAt
import Derived.Test.YtplchhahjmoodaaGreatDoorZ43
import Derived.Test.YtplchhahjmoodaaGreatDoorZ48
namespace Go.Proofs.YtplchhahjmoodaaGreatDoor
open Go Go.RowKit Go.Shelf
attribute [local go_sem] Oper.semAt_some

theorem infoStr : (Tryz.prog.info? 9).map (fun i => (i.zero, i.size, i.bytes)) = some (some (.string ⟨#[]⟩), 1, 16) := by kernel_rfl
/-- What the collecting loop holds: the result's box, the reader's box, the parts. -/
def GuessI (w : World) (ss : List ByteArray) (va : Option Addr) (vca : Nat) (pre : List ByteArray) (W : World) : Prop :=
  (W.heap[w.heap.size]? = some (.cells #[.int .i64 0, .int .i64 0, .int .i64 0, .int .i64 0, .slice none 0 0] 27 (0, 0)) ∧
    (∃ v, W.heap[w.heap.size + 1]? = some (.cells #[.slice va ss.length vca, v] 118 (0, 0)) ∧ W.ownsRow (w.heap.size + 2) 9 1 v pre.length (pre.map Value.string)) ∧ pre.length ≤ 121) ∧ Below w.heap.size w W
theorem guessI_new (w : World) (ss : List ByteArray) (va : Option Addr) (vca : Nat) (s : ByteArray) : GuessI w ss va vca [] (((w.alloc (.cells #[.int .i64 0, .int .i64 0, .int .i64 0, .int .i64 0, .slice none 0 0] 27)).alloc (.cells #[.slice va ss.length vca, .slice none 0 0] 118)).alloc (.cells #[.string s] 9)) := by
  have b0 : Below w.heap.size w (w.alloc (.cells #[.int .i64 0, .int .i64 0, .int .i64 0, .int .i64 0, .slice none 0 0] 27)) := (Below.refl _ _).alloc (Nat.le_refl _) _
  refine ⟨⟨?_, ⟨.slice none 0 0, ?_, World.ownsRow_nil _ _ _ _⟩, by simp⟩, (b0.alloc (by simp) _).alloc (by simp only [World.size_alloc]; omega) _⟩
  · rw [Below.heap_alloc _ _ _ (by simp only [World.size_alloc]; omega), Below.heap_alloc _ _ _ (by simp only [World.size_alloc]; omega)]
    exact heap_alloc_new w _
  · rw [Below.heap_alloc _ _ _ (by simp)]
    have := heap_alloc_new (w.alloc (.cells #[.int .i64 0, .int .i64 0, .int .i64 0, .int .i64 0, .slice none 0 0] 27)) (.cells #[.slice va ss.length vca, .slice none 0 0] 118)
    rw [World.size_alloc] at this
    exact this
theorem guessI_own (w : World) (ss : List ByteArray) (va : Option Addr) (vca : Nat) (B : Nat) (hB : w.heap.size + 3 ≤ B) : OwnFrom B (GuessI w ss va vca) := by
  rintro pre W W' row ⟨⟨h1, ⟨v, h2, h3⟩, h4⟩, hb⟩ hg hr
  have hlt : ∀ (k : Nat) (o : Obj), W.heap[k]? = some o → o.isCells = true → W'.heap[k]? = some o := by
    intro k o hk ho
    refine (hg.block k (Array.getElem?_eq_some_iff.1 hk).1 ?_).trans hk
    intro e
    obtain ⟨_, o', ho', hc⟩ := hr k e.symm
    rw [hk] at ho'
    cases ho'
    rw [ho] at hc
    cases hc
  refine ⟨⟨hlt _ _ h1 rfl, ⟨v, hlt _ _ h2 rfl, h3.kept hg ?_⟩, h4⟩, hb.grown hg hb.size fun k e => ?_⟩
  · rcases h3.2 with ⟨rfl, _⟩ | ⟨g, cap, cur, rfl, _, hgb, _⟩
    · exact .inl rfl
    · refine .inr fun e' => ?_
      obtain ⟨_, o, ho, hc⟩ := hr g (by simpa [Value.ownBlock] using e'.symm)
      rw [hgb] at ho; cases ho; cases hc
  · have := (hr k e).1
    omega
theorem listsP_parts (s : ByteArray) (n : Nat) : listsP ((partsB s).take n) = (partsOf s.data.toList).take n := by
  unfold listsP partsB
  rw [← List.map_take, List.map_map]
  exact List.map_id _
theorem partsF_size : ∀ (n : Nat) (l p : List UInt8), p ∈ partsF n l → p.length ≤ l.length
  | 0, _, _, h => by cases h
  | _ + 1, [], _, h => by cases h
  | n + 1, b :: l, p, h => by
    rcases List.mem_cons.1 h with rfl | h
    · rw [List.length_take]
      exact Nat.min_le_right _ _
    · have := partsF_size n _ p h
      rw [List.length_drop] at this
      omega
theorem partsB_size (s p : ByteArray) (h : p ∈ partsB s) : p.size ≤ s.size := by
  obtain ⟨l, hl, rfl⟩ := List.mem_map.1 h
  have := partsF_size _ _ _ hl
  have h2 : s.data.toList.length = s.size := by simp
  rw [h2] at this
  exact this
theorem Turn.low {lo hi n : Nat} {W W' : World} (t : Turn lo hi W W') (h : n ≤ lo) (hn : n ≤ W.heap.size := by omega) : Below n W W' :=
  ⟨t.os, t.tape, t.output, t.size, fun k hk => t.block k (by omega) (.inl (by omega))⟩
theorem box_of5 {W : World} {g : Nat} {a b c d e : Value} {t : TypeId} (h : W.heap[g]? = some (.cells #[a, b, c, d, e] t (0, 0))) : BoxL W g [a, b, c, d, e] := by
  refine ⟨fun i x hx => ?_, fun o => by simp [World.frozen?, h], (Array.getElem?_eq_some_iff.1 h).1⟩
  have hi : i < 5 := (List.getElem?_eq_some_iff.1 hx).1
  match i, hi with
  | 0, _ => cases hx; simp [World.cell?, h]
  | 1, _ => cases hx; simp [World.cell?, h]
  | 2, _ => cases hx; simp [World.cell?, h]
  | 3, _ => cases hx; simp [World.cell?, h]
  | 4, _ => cases hx; simp [World.cell?, h]
theorem own_form {W : World} {base : Nat} {e : TypeId} {size : Nat} {v : Value} {n : Nat} {xs : List Value} (h : W.ownsRow base e size v n xs) : ∃ a c, v = .slice a n c := by
  rcases h.2 with ⟨rfl, rfl⟩ | ⟨g, cap, cur, rfl, _⟩
  · exact ⟨_, _, rfl⟩
  · exact ⟨_, _, rfl⟩
theorem heap_set1 {W : World} {R : Nat} {a b : Value} {t : TypeId} (u : Value) (h : W.heap[R]? = some (.cells #[a, b] t (0, 0))) : (W.setCell ⟨R, 1, none⟩ u).heap[R]? = some (.cells #[a, u] t (0, 0)) := by
  obtain ⟨hlt, hk⟩ := Array.getElem?_eq_some_iff.1 h
  show (W.heap.modify R _)[R]? = _
  rw [Array.getElem?_eq_getElem (by rw [Array.size_modify]; exact hlt), Array.getElem_modify_self, hk]
  rfl
theorem grown_set1 (W : World) (b : Nat) (v : Value) : W.grownBy (W.setCell ⟨b, 1, none⟩ v) (some b) :=
  ⟨rfl, rfl, rfl, (KeepsWalks.setCell W _ v).size, fun k _ hk => Below.heap_setCell _ _ _ k (fun e => hk (by rw [e]))⟩
theorem guessI_append {w W w1 : World} {ss : List ByteArray} {va : Option Addr} {vca : Nat} {pre : List ByteArray} {v v' : Value} {x : ByteArray} {tmp : Obj}
    (h1 : W.heap[w.heap.size]? = some (.cells #[.int .i64 0, .int .i64 0, .int .i64 0, .int .i64 0, .slice none 0 0] 27 (0, 0)))
    (h2 : W.heap[w.heap.size + 1]? = some (.cells #[.slice va ss.length vca, v] 118 (0, 0))) (h3 : W.ownsRow (w.heap.size + 2) 9 1 v pre.length (pre.map Value.string)) (h4 : pre.length ≤ 120) (hb : Below w.heap.size w W)
    (hown : w1.ownsRow (w.heap.size + 2) 9 1 v' (pre.length + 1) (pre.map Value.string ++ [.string x])) (hgrow : (W.alloc tmp).grownBy w1 v.ownBlock) :
    w1.cell? ⟨w.heap.size + 1, 1, none⟩ = some v ∧ w1.frozen? ⟨w.heap.size + 1, 1, none⟩ = false ∧ GuessI w ss va vca (pre ++ [x]) (w1.setCell ⟨w.heap.size + 1, 1, none⟩ v') ∧ KeepsOthers W (w1.setCell ⟨w.heap.size + 1, 1, none⟩ v') ∧ Below w.heap.size W (w1.setCell ⟨w.heap.size + 1, 1, none⟩ v') := by
  have hne : ∀ k, k < w.heap.size + 2 → some k ≠ v.ownBlock := by
    intro k hk e
    have := (h3.lt k e.symm).1
    omega
  have hblk : ∀ (k : Nat) (o : Obj), k < w.heap.size + 2 → W.heap[k]? = some o → w1.heap[k]? = some o := by
    intro k o hk h
    have hlt := (Array.getElem?_eq_some_iff.1 h).1
    exact (hgrow.block k (by rw [World.size_alloc]; omega) (hne k hk)).trans ((Below.heap_alloc _ _ _ hlt).trans h)
  have h21 := hblk _ _ (by omega) h2
  have hB : Below w.heap.size W (w1.setCell ⟨w.heap.size + 1, 1, none⟩ v') := by
    refine (((Below.refl w.heap.size W).alloc hb.size tmp).grown hgrow (by have := hb.size; rw [World.size_alloc]; omega) fun j ej => ?_).setCell (p := ⟨w.heap.size + 1, 1, none⟩) (by show w.heap.size ≤ w.heap.size + 1; omega) v'
    have := (h3.lt j ej).1
    omega
  refine ⟨by simp [World.cell?, h21], by simp [World.frozen?, h21], ⟨⟨?_, ⟨v', heap_set1 v' h21, ?_⟩, by rw [List.length_append]; exact Nat.succ_le_succ h4⟩, hb.trans hB⟩, ?_, hB⟩
  · exact (Below.heap_setCell _ _ _ _ (by show w.heap.size ≠ w.heap.size + 1; omega)).trans (hblk _ _ (by omega) h1)
  · have := hown.kept (grown_set1 w1 (w.heap.size + 1) v') (.inr (by
      intro e
      have := (hown.lt _ e).1
      omega))
    rw [List.length_append, List.map_append]
    exact this
  · refine ((KeepsOthers.alloc W tmp).trans (KeepsOthers.of_grownBy hgrow fun j o ej hj => ?_)).trans (KeepsOthers.setCell _ _ _)
    rcases (h3.alloc tmp).2 with ⟨rfl, _⟩ | ⟨g, cap, cur, rfl, _, hgb, _⟩
    · simp [Value.ownBlock] at ej
    · obtain rfl : g = j := by simpa [Value.ownBlock] using ej
      rw [hgb] at hj; cases hj; rfl
/-- The formula that is read out of the collected parts. -/
theorem implGuessEnd (w W : World) (ss : List ByteArray) (va : Option Addr) (vca : Nat) (s : ByteArray) (qs : List ByteArray) (h : GuessW ss va w) (hlen : ss.length ≤ maxLen) (hs : s.size ≤ 1048576) (hI : GuessI w ss va vca qs W) (hq : (partsB s).take 121 = qs) :
    Calls Tryz.prog 80 #[.pointer (some ⟨w.heap.size + 1, 0, none⟩)] W fun e W' =>
      ∃ t : Ft, e = .returned t.val ∧ t.er = guessT ss s.data.toList ∧ t.Mine W' W.heap.size W'.heap.size ∧ Turn (w.heap.size + 1) (w.heap.size + 1 + 1) W W' := by
  obtain ⟨⟨h1, ⟨v, h2, h3⟩, h4⟩, hb⟩ := hI
  obtain ⟨pa, pca, rfl⟩ := own_form h3
  have hlt := (Array.getElem?_eq_some_iff.1 h2).1
  have hcap : qs.length ≤ pca := by
    rcases h3.2 with ⟨e, h0⟩ | ⟨g, cap, cur, e, _, _, hc, _⟩
    · omega
    · injection e with _ _ e
      omega
  have hpa : ∀ b o u, pa = some ⟨b, o, u⟩ → w.heap.size + 2 ≤ b ∧ b < W.heap.size := by
    intro b o u e
    subst e
    rcases h3.2 with ⟨e, _⟩ | ⟨g, cap, cur, e, hg, hgb, _⟩
    · cases e
    · injection e with e
      injection e with e
      injection e with e1 _ _
      subst e1
      exact ⟨hg, (Array.getElem?_eq_some_iff.1 hgb).1⟩
  have hrow : Row W W.heap.size pa (strVals qs) := by
    intro k y hk
    rcases h3.2 with ⟨e, h0⟩ | ⟨g, cap, cur, e, hg, hgb, _⟩
    · have hk2 := (List.getElem?_eq_some_iff.1 hk).1
      rw [strVals, List.length_map, h0] at hk2
      omega
    · injection e with e
      refine ⟨g, 0, e, (Array.getElem?_eq_some_iff.1 hgb).1, ?_⟩
      have := h3.cells (g := g) (by rw [e]; rfl) k y hk
      have ea : (⟨g, 0, none⟩ : Addr).add k = ⟨g, 0 + k, none⟩ := by
        unfold Addr.add
        split
        · rename_i hk0
          subst hk0
          rfl
        · rfl
      rw [ea] at this
      exact this
  have hsz : ∀ p ∈ qs, p.size ≤ 1048576 := by
    intro p hp
    rw [← hq] at hp
    have hp := List.mem_of_mem_take hp
    exact Nat.le_trans (partsB_size s p hp) hs
  have hG : RdG w W W.heap.size (w.heap.size + 1) ss va vca qs := by
    refine ⟨pa, pca, ⟨fun i x hx => ?_, fun o => ?_, hlt⟩, hrow, fun b o u e => ?_, hcap, hsz, by omega, hb, by omega, by omega, Nat.le_refl _⟩
    · have hi : i < 2 := (List.getElem?_eq_some_iff.1 hx).1
      match i, hi with
      | 0, _ => cases hx; simp [World.cell?, h2]
      | 1, _ => cases hx; simp [World.cell?, h2]
    · simp [World.frozen?, h2]
    · have := (hpa b o u e).1
      omega
  refine (implFormulaF w W.heap.size (w.heap.size + 1) ss va vca h hlen 121 W qs h4 hG).mono ?_
  rintro e W' ⟨t, rs, rfl, he, _, hm, _, tn⟩
  refine ⟨t, rfl, ?_, hm, tn⟩
  rw [he, ← hq]
  unfold guessT
  rw [listsP_parts]
set_option maxRecDepth 100000 in
set_option maxHeartbeats 1000000 in
theorem implGuessFormula (ss : List ByteArray) (va : Option Addr) (vca : Nat) (s : ByteArray) (w : World) (h : GuessW ss va w) (hlen : ss.length ≤ maxLen) (hs : s.size ≤ 1048576) :
    Calls Tryz.prog 34 #[.slice va ss.length vca, .string s] w fun e W' => ∃ t : Ft, e = .returned t.val ∧ t.er = guessT ss s.data.toList ∧ t.Mine W' w.heap.size W'.heap.size ∧ Below w.heap.size w W' := by
  refine (callsIn_wide (n := 5)).1 ?_
  refine callsIn_of_wp_marks Tryz.func34 rfl trivial ?_ rfl
  simp only [Tryz.ntmps34, List.size_toArray, List.length_cons, List.length_nil, Nat.reduceAdd, Nat.reduceSub, Array.replicate_succ, Array.replicate_zero, List.push_toArray, List.append_toArray, List.nil_append, List.cons_append]
  gi_wp2
  refine ⟨trivial, ?_⟩
  refine (callsIn_wide.2 (implPartsOfText s _)).mono ?_
  rintro e w1 ⟨rfl, rfl⟩
  gi_wp2
  have hI0 := guessI_new w ss va vca s
  have hsz : (((w.alloc (.cells #[.int .i64 0, .int .i64 0, .int .i64 0, .int .i64 0, .slice none 0 0] 27)).alloc (.cells #[.slice va ss.length vca, .slice none 0 0] 118)).alloc (.cells #[.string s] 9)).heap.size = w.heap.size + 3 := by simp
  have hcs := (Boxed.new ((w.alloc (.cells #[.int .i64 0, .int .i64 0, .int .i64 0, .int .i64 0, .slice none 0 0] 27)).alloc (.cells #[.slice va ss.length vca, .slice none 0 0] 118)) 9 (.string s)).cell
  obtain ⟨W2, hW2⟩ : ∃ W2, ((w.alloc (.cells #[.int .i64 0, .int .i64 0, .int .i64 0, .int .i64 0, .slice none 0 0] 27)).alloc (.cells #[.slice va ss.length vca, .slice none 0 0] 118)).alloc (.cells #[.string s] 9) = W2 := ⟨_, rfl⟩
  rw [World.size_alloc, World.size_alloc] at hcs
  rw [hW2] at hI0 hsz hcs ⊢
  clear hW2
  obtain ⟨i0, hi, hz0, hz1, hz2⟩ := info_parts infoStr
  refine wpIn_rangeFunc_ownF rfl (by omega) (gf := 116) (lb := #[.pointer (some ⟨w.heap.size + 1 + 1, 0, none⟩)]) rfl trivial (enters_of Tryz.func116 (by kernel_rfl) rfl)
    (partsStops 4 (by omega) (w.heap.size + 1 + 1) w.heap.size s hs W2 (by omega) hcs) belowK_t (belowK_b (by omega)) (Below.refl _ _) (fun _ => rfl)
    (GuessI w ss va vca) (fun c q W => c = .exit 0 ∧ ∃ p x, q = p ++ [x] ∧ p.length = 121 ∧ GuessI w ss va vca p W)
    (guessI_own w ss va vca _ (by omega))
    (fun c => fun s A B row hs hg hr => by obtain ⟨hc, p, x, hx, hl, hI⟩ := hs; exact ⟨hc, p, x, hx, hl, guessI_own w ss va vca _ (by omega) _ _ _ _ hI hg hr⟩)
    hI0
    (fun x => { tmps := #[.slice va ss.length vca, .string s, undef, undef, .pointer (some ⟨w.heap.size, 0, none⟩), .pointer (some ⟨w.heap.size + 1, 0, none⟩), .string x, .slice va ss.length vca, .agg #[.slice va ss.length vca, .slice none 0 0], .string s, .func (.func 116) #[] #[.pointer (some ⟨w.heap.size + 1 + 1, 0, none⟩)], .string x, undef, undef, undef, undef, undef, undef, undef, undef, undef, undef, undef], defers := [] }) ?assign ?body ?done ?stop
  case assign =>
    intro l x W K hK
    gi_wp2
    exact hK
  case body =>
    rintro l pre x W ⟨⟨h1, ⟨v, h2, h3⟩, h4⟩, hb⟩ _
    obtain ⟨pa, pca, rfl⟩ := own_form h3
    have c1 : W.cell? ⟨w.heap.size + 1, 1, none⟩ = some (.slice pa pre.length pca) := by simp [World.cell?, h2]
    by_cases h121 : pre.length = 121
    · have HE := Lib.hid (show GuessI w ss va vca pre W from ⟨⟨h1, ⟨_, h2, h3⟩, h4⟩, hb⟩)
      have HL := Lib.hid h121
      rw [h121] at c1
      clear h1 h2 h3 h4 h121
      gi_wp2
      exact ⟨KeepsOthers.refl _, rfl, pre, x, rfl, HL.out, HE.out⟩
    · have hle : pre.length ≤ 120 := by omega
      have hgt : ¬ (120 : Int) < (pre.length : Int) := by omega
      gi_wp2_with (gi_at_builtin; refine wpListIn_append_own _ rfl _ _ 24 rfl (w.heap.size + 2) 9 i0 (.string ⟨#[]⟩) 1 16 Tryz.underlying24 hi hz0 hz1 hz2 rfl (by decide) _ _ _ rfl (h3.alloc _) ⟨W.heap.size, 0, none⟩ 1 1 [.string x] rfl rfl (cell_one_new _ _ _) (by simp [Value.oneCell']) (by unfold maxLen; omega) (by omega) (by have := hb.size; have := (Array.getElem?_eq_some_iff.1 h2).1; rw [World.size_alloc]; omega) ?_; intro v' w1 hown' hgrow _; obtain ⟨g', cap', rfl⟩ := ownsRow_succ hown'; obtain ⟨hc1, hf1, hI1, hk1, hb1⟩ := guessI_append h1 h2 h3 hle hb hown' hgrow)
      exact ⟨hk1, hb1, hI1⟩
  case done =>
    rintro D ys W hD rfl hI hK
    have hq : (partsB s).take 121 = partsB s := List.take_of_length_le hI.1.2.2
    gi_wp2
    refine ⟨trivial, (callsIn_wide.2 (implGuessEnd w W ss va vca s _ h hlen hs hI hq)).mono ?_⟩
    obtain ⟨⟨h1, ⟨_, h2, _⟩, _⟩, hb⟩ := hI
    have hDlt := (Array.getElem?_eq_some_iff.1 hK).1
    have h2lt := (Array.getElem?_eq_some_iff.1 h2).1
    clear hq hcs hI0 hz0 hz1 hz2 hi h2
    rintro e W' ⟨t, rfl, he, hm, tn⟩
    have HE := Lib.hid he
    clear he
    have hres := (tn.block w.heap.size (by omega) (.inl (by omega))).trans h1
    have hK' := (tn.block D hDlt (.inr (by omega))).trans hK
    have bR := box_of5 hres
    have r0 := bR.c 0 _ rfl
    have r1 := bR.c 1 _ rfl
    have r2 := bR.c 2 _ rfl
    have r3 := bR.c 3 _ rfl
    have r4 := bR.c 4 _ rfl
    have rf := bR.f
    have rl := bR.lt
    clear h1 hK hres
    gi_wp2
    have hTT := ((((turn_set W' w.heap.size 0 (.int .i64 t.kd)).trans (turn_set _ w.heap.size 1 (.int .i64 t.k))).trans (turn_set _ w.heap.size 2 (.int .i64 t.u))).trans (turn_set _ w.heap.size 3 (.int .i64 t.v))).trans (turn_set _ w.heap.size 4 (.slice t.a t.args.length t.cap))
    have b7 := set5 bR (.int .i64 t.kd) (.int .i64 t.k) (.int .i64 t.u) (.int .i64 t.v) (.slice t.a t.args.length t.cap) rfl
    obtain ⟨V, hV⟩ : ∃ V, ((((W'.setCell ⟨w.heap.size, 0, none⟩ (.int .i64 t.kd)).setCell ⟨w.heap.size, 1, none⟩ (.int .i64 t.k)).setCell ⟨w.heap.size, 2, none⟩ (.int .i64 t.u)).setCell ⟨w.heap.size, 3, none⟩ (.int .i64 t.v)).setCell ⟨w.heap.size, 4, none⟩ (.slice t.a t.args.length t.cap) = V := ⟨_, rfl⟩
    have hVs : V.heap.size = W'.heap.size := by rw [← hV]; simp
    rw [hV] at hTT b7 ⊢
    clear hV r0 r1 r2 r3 r4 rf bR
    have htz := tn.size
    have hKV := (hTT.block D (by omega) (.inr (by omega))).trans hK'
    have tP : Turn D (D + 1) V (V.putObj D (.deferred none)) := Turn.of_grown (grownBy_putObj' V D _) (fun k e => by cases e; omega)
    have m7 := Ft.Mine.turn tP t (Ft.Mine.turn hTT t hm (.inl (by omega))) (.inl (by omega))
    have hPs := tP.size
    have m8 := Ft.Mine.grow (hi' := (V.putObj D (.deferred none)).heap.size) t m7 (lo' := w.heap.size) (by omega) (by omega) (Nat.le_refl _)
    have hbb : Below w.heap.size w (V.putObj D (.deferred none)) := hb.trans ((tn.low (by omega)).trans ((hTT.low (Nat.le_refl _)).trans (tP.low (by omega))))
    have b8 := b7.turn tP (.inl (by omega))
    have s0 := b8.c 0 _ rfl
    have s1 := b8.c 1 _ rfl
    have s2 := b8.c 2 _ rfl
    have s3 := b8.c 3 _ rfl
    have s4 := b8.c 4 _ rfl
    refine ⟨by simp, .inl ⟨_, _, rfl, run_takeDeferred hKV, ?_⟩⟩
    exact ⟨t.val, by simp only [results, Tryz.results34]; simp [go_sem, s0, s1, s2, s3, s4], t, rfl, HE.out, m8, hbb⟩
  case stop =>
    rintro D c pre W hD hSp ⟨rfl, p, x, rfl, hl, hI⟩ hK
    have hq : (partsB s).take 121 = p := by
      obtain ⟨r, hr⟩ := hSp
      rw [← hr, List.append_assoc, List.take_append_of_le_length (by omega), ← hl, List.take_length]
    gi_wp2
    refine ⟨trivial, (callsIn_wide.2 (implGuessEnd w W ss va vca s _ h hlen hs hI hq)).mono ?_⟩
    obtain ⟨⟨h1, ⟨_, h2, _⟩, _⟩, hb⟩ := hI
    have hDlt := (Array.getElem?_eq_some_iff.1 hK).1
    have h2lt := (Array.getElem?_eq_some_iff.1 h2).1
    clear hq hcs hI0 hz0 hz1 hz2 hi h2
    rintro e W' ⟨t, rfl, he, hm, tn⟩
    have HE := Lib.hid he
    clear he
    have hres := (tn.block w.heap.size (by omega) (.inl (by omega))).trans h1
    have hK' := (tn.block D hDlt (.inr (by omega))).trans hK
    have bR := box_of5 hres
    have r0 := bR.c 0 _ rfl
    have r1 := bR.c 1 _ rfl
    have r2 := bR.c 2 _ rfl
    have r3 := bR.c 3 _ rfl
    have r4 := bR.c 4 _ rfl
    have rf := bR.f
    have rl := bR.lt
    clear h1 hK hres
    gi_wp2
    have hTT := ((((turn_set W' w.heap.size 0 (.int .i64 t.kd)).trans (turn_set _ w.heap.size 1 (.int .i64 t.k))).trans (turn_set _ w.heap.size 2 (.int .i64 t.u))).trans (turn_set _ w.heap.size 3 (.int .i64 t.v))).trans (turn_set _ w.heap.size 4 (.slice t.a t.args.length t.cap))
    have b7 := set5 bR (.int .i64 t.kd) (.int .i64 t.k) (.int .i64 t.u) (.int .i64 t.v) (.slice t.a t.args.length t.cap) rfl
    obtain ⟨V, hV⟩ : ∃ V, ((((W'.setCell ⟨w.heap.size, 0, none⟩ (.int .i64 t.kd)).setCell ⟨w.heap.size, 1, none⟩ (.int .i64 t.k)).setCell ⟨w.heap.size, 2, none⟩ (.int .i64 t.u)).setCell ⟨w.heap.size, 3, none⟩ (.int .i64 t.v)).setCell ⟨w.heap.size, 4, none⟩ (.slice t.a t.args.length t.cap) = V := ⟨_, rfl⟩
    have hVs : V.heap.size = W'.heap.size := by rw [← hV]; simp
    rw [hV] at hTT b7 ⊢
    clear hV r0 r1 r2 r3 r4 rf bR
    have htz := tn.size
    have hKV := (hTT.block D (by omega) (.inr (by omega))).trans hK'
    have tP : Turn D (D + 1) V (V.putObj D (.deferred none)) := Turn.of_grown (grownBy_putObj' V D _) (fun k e => by cases e; omega)
    have m7 := Ft.Mine.turn tP t (Ft.Mine.turn hTT t hm (.inl (by omega))) (.inl (by omega))
    have hPs := tP.size
    have m8 := Ft.Mine.grow (hi' := (V.putObj D (.deferred none)).heap.size) t m7 (lo' := w.heap.size) (by omega) (by omega) (Nat.le_refl _)
    have hbb : Below w.heap.size w (V.putObj D (.deferred none)) := hb.trans ((tn.low (by omega)).trans ((hTT.low (Nat.le_refl _)).trans (tP.low (by omega))))
    have b8 := b7.turn tP (.inl (by omega))
    have s0 := b8.c 0 _ rfl
    have s1 := b8.c 1 _ rfl
    have s2 := b8.c 2 _ rfl
    have s3 := b8.c 3 _ rfl
    have s4 := b8.c 4 _ rfl
    refine ⟨by simp, .inl ⟨_, _, rfl, run_takeDeferred hKV, ?_⟩⟩
    exact ⟨t.val, by simp only [results, Tryz.results34]; simp [go_sem, s0, s1, s2, s3, s4], t, rfl, HE.out, m8, hbb⟩
end Go.Proofs.YtplchhahjmoodaaGreatDoor
