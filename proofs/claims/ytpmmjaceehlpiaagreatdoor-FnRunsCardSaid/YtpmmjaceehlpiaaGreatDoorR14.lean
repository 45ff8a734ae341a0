/-
  The model's reading of an edge: the words between the blanks; two numbers, and a statement in what is left.
  The model's ParseProgram: the one program that is right and whose text it is, and true; else the empty program and false.
  What ParseProgram's answer is, said once for the program's and the model's: there is one program, and every call answers it in rows of its own.
-/
import Derived.Deep.AppendLies
import Derived.Test.YtpmmjaceehlpiaaGreatDoorR04
import Derived.Test.YtpmmjaceehlpiaaGreatDoorR03
import Derived.Test.YtpmmjaceehlpiaaGreatDoorR05
namespace Go.Proofs.YtpmmjaceehlpiaaGreatDoor
open Go Go.RowKit

def zeroEd : Ed := ⟨0, 0, 0, ⟨#[]⟩, ⟨#[]⟩⟩
def wd (l : List UInt8) (i : Nat) : List UInt8 := (cut 32 l).getD i []
def restL (l : List UInt8) : List UInt8 := Lib.join ((cut 32 l).drop 2) [32]
def eE (l : List UInt8) : Ed := ⟨numV (wd l 0), numV (wd l 1), kOf (restL l), aOf (restL l), bOf (restL l)⟩
def eG (l : List UInt8) : Bool := decide (3 ≤ (cut 32 l).length) && (numN 0 999999 (wd l 0) && numN 0 999999 (wd l 1) && parsesS (mkS (restL l)))
def eR (l : List UInt8) : Ed := if 3 ≤ (cut 32 l).length then eE l else zeroEd

/-- What is cut out of a program's text. -/
theorem eE_back {ss : List ByteArray} {p : Int} {x : Ed} (hp : p ≤ 12) (hx : (0 ≤ x.f ∧ x.f < p) ∧ (0 ≤ x.t ∧ x.t < p) ∧ stmtB ss x.k x.a x.b = true) : eG (edL x) = true ∧ eR (edL x) = x := by
  obtain ⟨⟨f0, f1⟩, ⟨t0, t1⟩, hs⟩ := hx
  obtain ⟨s0, s1, s2, s3, s4⟩ := stmt_back hs
  have hc : cut 32 (edL x) = Lib.itoa x.f :: Lib.itoa x.t :: cut 32 (textS x.k x.a x.b).data.toList := by
    rw [edL, cut_hit 32 _ _ (not_mem (itoa_clean f0 (by decide))), cut_hit 32 _ _ (not_mem (itoa_clean t0 (by decide)))]
  have h0 : wd (edL x) 0 = Lib.itoa x.f := by rw [wd, hc]; rfl
  have h1 : wd (edL x) 1 = Lib.itoa x.t := by rw [wd, hc]; rfl
  have h2 : restL (edL x) = (textS x.k x.a x.b).data.toList := by
    rw [restL, hc]
    show Lib.join (cut 32 _) [32] = _
    rw [join_cut]
  have h3 : 3 ≤ (cut 32 (edL x)).length := by
    rw [hc]
    have := cut_ne 32 (textS x.k x.a x.b).data.toList
    match hq : cut 32 (textS x.k x.a x.b).data.toList, this with
    | y :: r, _ => simp
  have n1 := num_itoa_yes f0 (by omega)
  have n2 := num_itoa_yes t0 (by omega)
  refine ⟨?_, ?_⟩
  · rw [eG, decide_eq_true h3, h0, h1, h2, n1.1, n2.1, mkS_list, s1]
    rfl
  · rw [eR, if_pos h3, eE, h0, h1, h2, n1.2, n2.2, s2, s3, s4]
theorem join_no {c : UInt8} {A B : List UInt8} {es : List Ed} : A ++ c :: (B ++ es.flatMap fun x => c :: edL x) = Lib.join (A :: B :: es.map edL) [c] := by
  rw [join_flat, List.flatMap_cons, List.flatMap_map]
  simp
theorem edL_clean {ss : List ByteArray} {p : Int} {x : Ed} (hx : (0 ≤ x.f ∧ x.f < p) ∧ (0 ≤ x.t ∧ x.t < p) ∧ stmtB ss x.k x.a x.b = true) : (59 : UInt8) ∉ edL x := by
  obtain ⟨⟨f0, f1⟩, ⟨t0, t1⟩, hs⟩ := hx
  have s0 := (stmt_back hs).1
  rw [edL]
  intro hm
  rcases List.mem_append.1 hm with h | h
  · exact itoa_clean f0 (by decide) h
  · rcases List.mem_cons.1 h with h | h
    · cases h
    · rcases List.mem_append.1 h with h | h
      · exact itoa_clean t0 (by decide) h
      · rcases List.mem_cons.1 h with h | h
        · cases h
        · exact s0 h
theorem prog_cut {t : List UInt8} {ss : List ByteArray} {p : Int} {es : List Ed} (h : ValidT t ss p es) : cut 59 t = jn ss ⟨#[32]⟩ :: Lib.itoa p :: es.map edL := by
  obtain ⟨hB, rfl⟩ := h
  obtain ⟨hg, ⟨p0, p1⟩, _, hes⟩ := prog_parts hB
  rw [progL, join_no]
  refine cut_join 59 _ _ fun x hx => ?_
  simp only [List.mem_cons, List.mem_map] at hx
  rcases hx with rfl | rfl | ⟨y, hy, rfl⟩
  · exact jn_no59 hg
  · exact itoa_clean (by omega) (by decide)
  · exact edL_clean (hes y hy)

/-- What the model reads: variables, points, edges; whether every edge was right. -/
def sVars (t : List UInt8) : List ByteArray := pieces 32 (mkS ((cut 59 t).getD 0 []))
def sPts (t : List UInt8) : Int := numV ((cut 59 t).getD 1 [])
def sEds (t : List UInt8) (k : Nat) : List Ed := (((cut 59 t).drop 2).take k).map eR
theorem spec_back {t : List UInt8} {ss : List ByteArray} {p : Int} {es : List Ed} (h : ValidT t ss p es) : (cut 59 t).length = es.length + 2 ∧ sVars t = ss ∧ sPts t = p ∧ (∀ k (hk : k < es.length), eG ((cut 59 t).getD (k + 2) []) = true) ∧ sEds t es.length = es := by
  have hc := prog_cut h
  obtain ⟨hg, ⟨p0, p1⟩, _, hes⟩ := prog_parts h.1
  refine ⟨by rw [hc]; simp, ?_, ?_, fun k hk => ?_, ?_⟩
  · rw [sVars, hc]
    exact vars_cut hg
  · rw [sPts, hc]
    exact (num_itoa_yes (by omega) (by omega)).2
  · rw [hc]
    have : (jn ss ⟨#[32]⟩ :: Lib.itoa p :: es.map edL).getD (k + 2) [] = edL es[k] := by simp [List.getD, hk]
    rw [this]
    exact (eE_back p1 (hes _ (List.getElem_mem hk))).1
  · rw [sEds, hc]
    show ((es.map edL).take es.length).map eR = es
    rw [List.take_of_length_le (by simp), List.map_map]
    conv => rhs; rw [← List.map_id es]
    exact List.map_congr_left fun x hx => (eE_back p1 (hes x hx)).2

theorem pair_end' {lo hi : Int} {l : List UInt8} {w w' : World} {e : Ending} (h : PairEnd lo hi l w e w') : e = .returned (.tuple #[.int .i64 (if numN lo hi l = true then valOf l else 0), .bool (numN lo hi l)]) ∧ Below w.heap.size w w' := h
theorem Row.drop {w : World} {B b o : Nat} {xs : List Value} (h : Row w B (some ⟨b, o, none⟩) xs) (k : Nat) : Row w B (some ⟨b, o + k, none⟩) (xs.drop k) := by
  intro i x hx
  rw [List.getElem?_drop] at hx
  obtain ⟨b', o', e, hb, hc⟩ := h _ _ hx
  injection e with e
  injection e with e1 e2 _
  subst e1 e2
  exact ⟨b, o + k, rfl, hb, by rw [Nat.add_assoc]; exact hc⟩
theorem strVals_drop (ss : List ByteArray) (k : Nat) : strVals (ss.drop k) = (strVals ss).drop k := by simp [strVals, List.map_drop]
theorem total_drop (ss : List ByteArray) (k : Nat) : total (ss.drop k) ≤ total ss := by
  have h := total_append (ss.take k) (ss.drop k)
  rw [List.take_append_drop] at h
  omega
theorem jn_rest (s : ByteArray) : jn ((pieces 32 s).drop 2) ⟨#[32]⟩ = restL s.data.toList := by
  rw [jn, List.map_drop, pieces_lists]
  rfl
theorem parseV_mk (f : List UInt8) : parseV (mkS f) = .tuple #[stV (kOf f) (aOf f) (bOf f), .bool (parsesS (mkS f))] := by
  rw [parseV, kOf, aOf, bOf]
  cases parsesS (mkS f) <;> rfl
theorem setCell_size' (w : World) (p : Addr) (u : Value) : (w.setCell p u).heap.size = w.heap.size := by simp [World.setCell]
theorem ws_at (s : ByteArray) (i : Nat) (h : i < (cut 32 s.data.toList).length) : (strVals (pieces 32 s))[i]? = some (.string (mkS (wd s.data.toList i))) := by
  simp [strVals, pieces, wd, List.getD, h]
theorem wd_size (s : ByteArray) (i : Nat) : (wd s.data.toList i).length ≤ s.size := by
  rcases Nat.lt_or_ge i (cut 32 s.data.toList).length with h | h
  · have e : wd s.data.toList i = (cut 32 s.data.toList)[i] := by simp [wd, List.getD, h]
    rw [e]
    have hm : mkS (cut 32 s.data.toList)[i] ∈ pieces 32 s := List.mem_map.2 ⟨_, List.getElem_mem h, rfl⟩
    have := piece_size 32 s _ hm
    rwa [show (mkS (cut 32 s.data.toList)[i]).size = ((cut 32 s.data.toList)[i]).length from mk_size _] at this
  · have e : wd s.data.toList i = [] := by simp [wd, List.getD, h]
    rw [e]
    simp
theorem join_drop (c : UInt8) : ∀ (ls : List (List UInt8)) (k : Nat), (Lib.join (ls.drop k) [c]).length ≤ (Lib.join ls [c]).length
  | _, 0 => Nat.le_refl _
  | [], k + 1 => by simp
  | [l], k + 1 => by simp [Lib.join_nil]
  | l :: m :: r, k + 1 => by
    have ih := join_drop c (m :: r) k
    have e : (Lib.join (l :: m :: r) [c]).length = l.length + 1 + (Lib.join (m :: r) [c]).length := by
      rw [join_flat, join_flat]
      simp
      omega
    rw [List.drop_succ_cons, e]
    omega
theorem restL_size (s : ByteArray) : (restL s.data.toList).length ≤ s.size := by
  have h := join_drop 32 (cut 32 s.data.toList) 2
  rw [join_cut] at h
  rw [restL]
  simpa using h

set_option maxHeartbeats 1600000 in
set_option maxRecDepth 100000 in
theorem specEdge (s : ByteArray) (w : World) (hs : s.size ≤ 1000000000) :
    Calls Tryz.prog 144 #[.string s] w (GaveB (.tuple #[edV (eR s.data.toList).f (eR s.data.toList).t (eR s.data.toList).k (eR s.data.toList).a (eR s.data.toList).b, .bool (eG s.data.toList)]) w) := by
  go_enter Tryz.func144, Tryz.ntmps144
  go_wp2_with fail
  obtain ⟨W0, hW0, hb0, hs0, hA0⟩ := edge_box w zeroEd 85
  have hf0 : ∀ o, W0.frozen? ⟨w.heap.size, o, none⟩ = false := fun o => by rw [← hW0]; simp [go_sem]
  unfold zeroEd at hW0
  rw [hW0]
  clear hW0
  refine (specSplit s 32 _ (by omega)).mono ?_
  rintro e w1 ⟨a, cap, rfl, hcap, ho1, hb1⟩
  have hwl : (pieces 32 s).length = (cut 32 s.data.toList).length := by simp [pieces]
  have hll : s.data.toList.length = s.size := by simp
  have hB1 : Below w.heap.size w w1 := hb0.trans (hb1.mono hb0.size)
  obtain ⟨a0, a1, a2, a3, a4⟩ := hA0.keep hs0 hb1
  have f0 : ∀ o, w1.frozen? ⟨w.heap.size, o, none⟩ = false := fun o => (hb1.frozen (p := ⟨w.heap.size, o, none⟩) hs0).trans (hf0 o)
  have hs1 : w.heap.size < w1.heap.size := Nat.lt_of_lt_of_le hs0 hb1.size
  have hcl := cut_length 32 s.data.toList
  by_cases h3 : (pieces 32 s).length < 3
  · have hE : eR s.data.toList = zeroEd := by rw [eR, if_neg (by omega)]
    have hG : eG s.data.toList = false := by rw [eG, decide_eq_false (by omega)]; rfl
    have HE := Lib.hid hE
    have HG := Lib.hid hG
    clear hE hG hA0 hwl hcl hf0
    simp only [zeroEd] at a0 a1 a2 a3 a4
    generalize (pieces 32 s).length = n at *
    go_wp2
    refine bodyPost_ret (v := .tuple #[edV 0 0 0 ⟨#[]⟩ ⟨#[]⟩, .bool false]) (by simp [results, Tryz.results144, go_sem, a0, a1, a2, a3, a4]) rfl ⟨by rw [HE.out, HG.out]; rfl, ?_⟩
    exact ((((hB1.setCell (p := ⟨w.heap.size, 0, none⟩) (Nat.le_refl _) _).setCell (p := ⟨w.heap.size, 1, none⟩) (Nat.le_refl _) _).setCell (p := ⟨w.heap.size, 2, none⟩) (Nat.le_refl _) _).setCell (p := ⟨w.heap.size, 3, none⟩) (Nat.le_refl _) _).setCell (p := ⟨w.heap.size, 4, none⟩) (Nat.le_refl _) _
  · have hE : eR s.data.toList = eE s.data.toList := by rw [eR, if_pos (by omega)]
    have hG : eG s.data.toList = (numN 0 999999 (wd s.data.toList 0) && numN 0 999999 (wd s.data.toList 1) && parsesS (mkS (restL s.data.toList))) := by rw [eG, decide_eq_true (by omega)]; rfl
    rw [eE] at hE
    have HE := Lib.hid hE
    have HG := Lib.hid hG
    have hR := Row.owned ho1
    obtain ⟨b, o, rfl, hbW, x0⟩ := hR 0 (.string (mkS (wd s.data.toList 0))) (ws_at s 0 (by omega))
    obtain ⟨b', o', e, _, x1⟩ := hR 1 (.string (mkS (wd s.data.toList 1))) (ws_at s 1 (by omega))
    injection e with e
    injection e with e1 e2 _
    subst e1 e2
    replace x0 : w1.cell? ⟨b, o, none⟩ = some (.string (mkS (wd s.data.toList 0))) := x0
    have z0 := wd_size s 0
    have z1 := wd_size s 1
    have hjl : (restL s.data.toList).length ≤ s.size := restL_size s
    have hR2 : ∀ W, Below w1.heap.size w1 W → Row W W.heap.size (some ⟨b, o, none⟩) (strVals (pieces 32 s)) := fun W h => (hR.below h).grow h.size
    clear hE hG hA0 hf0 hR
    simp only [zeroEd] at a0 a1 a2 a3 a4
    obtain ⟨n, hn⟩ : ∃ n, (pieces 32 s).length = n := ⟨_, rfl⟩
    rw [hn] at h3 ho1 hcap ⊢
    have HN := Lib.hid hn
    have HWL := Lib.hid hwl
    clear hn hwl
    go_wp2_with fail
    refine (specParseNumber _ _ (by rw [show (mkS (wd s.data.toList 0)).size = (wd s.data.toList 0).length from mk_size _]; unfold maxLen; omega)).mono ?_
    intro e w2 hpe
    obtain ⟨rfl, hb2⟩ := pair_end' hpe
    clear hpe
    rw [mkS_toList, show (if numN 0 999999 (wd s.data.toList 0) = true then valOf (wd s.data.toList 0) else 0) = numV (wd s.data.toList 0) from rfl]
    have x1' := (hb2.cell (p := ⟨b, o + 1, none⟩) hbW).trans x1
    clear x0 x1
    go_wp2_with fail
    refine (specParseNumber _ _ (by rw [show (mkS (wd s.data.toList 1)).size = (wd s.data.toList 1).length from mk_size _]; unfold maxLen; omega)).mono ?_
    intro e w3 hpe
    obtain ⟨rfl, hb3⟩ := pair_end' hpe
    clear hpe
    rw [mkS_toList, show (if numN 0 999999 (wd s.data.toList 1) = true then valOf (wd s.data.toList 1) else 0) = numV (wd s.data.toList 1) from rfl]
    clear x1'
    have hb13 := hb2.trans (hb3.mono hb2.size)
    go_wp2_with fail
    have hJ := specJoin (some ⟨b, o + 2, none⟩) (cap - 2) ((pieces 32 s).drop 2) ⟨#[32]⟩ w3 (by rw [List.length_drop, HN.out]; have := HWL.out; rw [HN.out] at this; unfold maxLen; omega) (by
      rw [List.length_drop, HN.out, show (⟨#[32]⟩ : ByteArray).size = 1 from rfl]
      have h1 := total_drop (pieces 32 s) 2
      have h2 := total_pieces 32 s
      have := HWL.out
      rw [HN.out] at this
      omega) (by rw [strVals_drop]; exact (hR2 _ hb13).drop 2)
    rw [List.length_drop, HN.out, jn_rest] at hJ
    refine hJ.mono ?_
    rintro e w4 ⟨rfl, hb4⟩
    have hb14 := hb13.trans (hb4.mono hb13.size)
    go_wp2_with fail
    refine (specParse (mkS (restL s.data.toList)) _ (by rw [show (mkS (restL s.data.toList)).size = (restL s.data.toList).length from mk_size _]; omega)).mono ?_
    rintro e w5 ⟨rfl, hb5⟩
    rw [parseV_mk]
    have hb15 := hb14.trans (hb5.mono hb14.size)
    have hB5 := hB1.trans (hb15.mono hB1.size)
    have kc : ∀ o', w5.cell? ⟨w.heap.size, o', none⟩ = w1.cell? ⟨w.heap.size, o', none⟩ := fun o' => hb15.cell (p := ⟨w.heap.size, o', none⟩) hs1
    have kf : ∀ o', w5.frozen? ⟨w.heap.size, o', none⟩ = false := fun o' => (hb15.frozen (p := ⟨w.heap.size, o', none⟩) hs1).trans (f0 o')
    have b0 := (kc 0).trans a0
    have b1 := (kc 1).trans a1
    have b2 := (kc 2).trans a2
    have b3 := (kc 3).trans a3
    have b4 := (kc 4).trans a4
    have hs5 : w.heap.size < w5.heap.size := Nat.lt_of_lt_of_le hs1 hb15.size
    have hs6 : ¬ w.heap.size = w5.heap.size := by omega
    have hs7 : ¬ w5.heap.size = w.heap.size := by omega
    clear kc a0 a1 a2 a3 a4 f0 hJ
    have HE2 := HE
    have HG2 := HG
    clear HE HG
    generalize numN 0 999999 (wd s.data.toList 0) = y0 at *
    generalize numN 0 999999 (wd s.data.toList 1) = y1 at *
    generalize parsesS (mkS (restL s.data.toList)) = y2 at *
    generalize numV (wd s.data.toList 0) = v0 at *
    generalize numV (wd s.data.toList 1) = v1 at *
    generalize kOf (restL s.data.toList) = k at *
    generalize aOf (restL s.data.toList) = sa at *
    generalize bOf (restL s.data.toList) = sb at *
    cases y0 <;> cases y1
    all_goals
      go_wp2
      refine bodyPost_ret (v := .tuple #[edV v0 v1 k sa sb, .bool _]) (by simp [results, Tryz.results144, go_sem, b0, b1, b2, b3, b4, hs5, hs6]; rfl) rfl ⟨by rw [HE2.out, HG2.out]; rfl, ?_⟩
      exact (((((hB5.setCell (p := ⟨w.heap.size, 0, none⟩) (Nat.le_refl _) _).setCell (p := ⟨w.heap.size, 1, none⟩) (Nat.le_refl _) _).setCell (p := ⟨w.heap.size, 2, none⟩) (Nat.le_refl _) _).setCell (p := ⟨w.heap.size, 3, none⟩) (Nat.le_refl _) _).setCell (p := ⟨w.heap.size, 4, none⟩) (Nat.le_refl _) _).alloc (by rw [setCell_size', setCell_size', setCell_size', setCell_size', setCell_size']; omega) _
end Go.Proofs.YtpmmjaceehlpiaaGreatDoor

namespace Go.Proofs.YtpmmjaceehlpiaaGreatDoor
open Go Go.RowKit

theorem numV_bounds (l : List UInt8) : 0 ≤ numV l ∧ numV l ≤ 999999 := by
  rw [numV]
  split
  · rename_i h
    have := atoi_num h
    exact ⟨this.2.1, this.2.2.1⟩
  · omega
theorem operand_size {ss : List ByteArray} (hg : goodVars ss = true) {s : ByteArray} {u : Bool} (h : operandB ss s u = true) : s.size ≤ 2 := by
  have hc := operand_can hg h
  cases u
  · have : s.data.toList = [] := by simpa [canS, ByteArray.toList_eq] using hc
    rw [← size_toList, this]
    simp
  · exact name_size (by simpa [canS] using hc)
theorem stmtB_kind {ss : List ByteArray} {k : Int} {a b : ByteArray} (h : stmtB ss k a b = true) : 1 ≤ k ∧ k ≤ 12 := by
  simp only [stmtB, Bool.and_eq_true, decide_eq_true_eq] at h
  rcases Classical.em (1 ≤ k ∧ k ≤ 12) with hk | hk
  · exact hk
  · have := h.1.1.2
    rw [namesN_none hk] at this
    omega
theorem progB_ok {ss : List ByteArray} {p : Int} {es : List Ed} (h : progB ss p es = true) : ∀ x ∈ es, x.Ok := by
  obtain ⟨hg, ⟨p0, p1⟩, _, hes⟩ := prog_parts h
  intro x hx
  obtain ⟨⟨f0, f1⟩, ⟨t0, t1⟩, hs⟩ := hes x hx
  have hk := stmtB_kind hs
  simp only [stmtB, Bool.and_eq_true] at hs
  have h1 := operand_size hg hs.1.2
  have h2 := operand_size hg hs.2
  exact ⟨⟨by omega, by omega⟩, ⟨by omega, by omega⟩, ⟨by omega, by omega⟩, by unfold maxLen; omega, by unfold maxLen; omega⟩

def pt (t : List UInt8) (i : Nat) : List UInt8 := (cut 59 t).getD i []
theorem part_at (t : ByteArray) (i : Nat) (h : i < (cut 59 t.data.toList).length) : (strVals (pieces 59 t))[i]? = some (.string (mkS (pt t.data.toList i))) := by
  simp [strVals, pieces, pt, List.getD, h]
theorem part_size (t : ByteArray) (i : Nat) : (pt t.data.toList i).length ≤ t.size := by
  rcases Nat.lt_or_ge i (cut 59 t.data.toList).length with h | h
  · have e : pt t.data.toList i = (cut 59 t.data.toList)[i] := by simp [pt, List.getD, h]
    rw [e]
    have hm : mkS (cut 59 t.data.toList)[i] ∈ pieces 59 t := List.mem_map.2 ⟨_, List.getElem_mem h, rfl⟩
    have := piece_size 59 t _ hm
    rwa [show (mkS (cut 59 t.data.toList)[i]).size = ((cut 59 t.data.toList)[i]).length from mk_size _] at this
  · have e : pt t.data.toList i = [] := by simp [pt, List.getD, h]
    rw [e]
    simp
theorem sEds_next (t : List UInt8) (k : Nat) (h : k + 2 < (cut 59 t).length) : sEds t (k + 1) = sEds t k ++ [eR (pt t (k + 2))] := by
  have h' : k < ((cut 59 t).drop 2).length := by rw [List.length_drop]; omega
  rw [sEds, take_next _ k h', List.map_append]
  have e : ((cut 59 t).drop 2)[k] = pt t (k + 2) := by
    rw [List.getElem_drop]
    simp only [pt, List.getD, List.getElem?_eq_getElem h, Option.getD_some]
    congr 1
    omega
  rw [List.map_cons, List.map_nil, e]
  rfl
theorem sEds_length (t : List UInt8) (k : Nat) (h : k + 2 ≤ (cut 59 t).length) : (sEds t k).length = k := by
  rw [sEds, List.length_map, List.length_take, List.length_drop]
  omega
theorem parts_max (t : ByteArray) : (cut 59 t.data.toList).length ≤ t.size + 1 := by
  have := cut_length 59 t.data.toList
  simpa using this

/-- All that the walk knows: below w1 nothing has turned; the variables' row; the program so far in a box. -/
structure SpG (w1 : World) (P M : Nat) (va : Value) (vn : Nat) (vs : List Value) (x1 v2 : Value) (W : World) : Prop where
  below : Below w1.heap.size w1 W
  p : Box3 W P va x1 v2
  pf : ∀ o, W.frozen? ⟨P, o, none⟩ = false
  v : W.ownsRow w1.heap.size 9 1 va vn vs
  vb : ∀ j, va.ownBlock = some j → j < P
  hP : w1.heap.size ≤ P
  hM : P < M
  hMW : M ≤ W.heap.size
section
variable {w1 W W' : World} {P M vn : Nat} {va x1 v2 : Value} {vs : List Value}
theorem SpG.call (h : SpG w1 P M va vn vs x1 v2 W) (hb : Below W.heap.size W W') : SpG w1 P M va vn vs x1 v2 W' :=
  have h1 := h.hM
  have h2 := h.hMW
  ⟨h.below.trans (hb.mono h.below.size), h.p.keep (by omega) hb, fun o => (hb.frozen (p := ⟨P, o, none⟩) (by show P < _; omega)).trans (h.pf o), own_keeps h.v hb, h.vb, h.hP, h1, Nat.le_trans h2 hb.size⟩
theorem SpG.grown {r : Option Nat} (h : SpG w1 P M va vn vs x1 v2 W) (hg : W.grownBy W' r) (hr : ∀ k, r = some k → M ≤ k) : SpG w1 P M va vn vs x1 v2 W' :=
  have h1 := h.hM
  have h2 := h.hMW
  have h3 := h.hP
  have kp : W'.heap[P]? = W.heap[P]? := hg.block P (by omega) fun e => by have := hr P e.symm; omega
  have kc : ∀ o, W'.cell? ⟨P, o, none⟩ = W.cell? ⟨P, o, none⟩ := fun o => World.cell?_of_block kp
  ⟨h.below.grown hg h.below.size (fun k hk => by have := hr k hk; omega), ⟨(kc 0).trans h.p.1, (kc 1).trans h.p.2.1, (kc 2).trans h.p.2.2⟩, fun o => (World.frozen?_of_block kp).trans (h.pf o),
    own_other h.v hg (fun j hj e => by have a := h.vb j hj; have b := hr j e.symm; omega), h.vb, h3, h1, Nat.le_trans h2 hg.size⟩
theorem SpG.set2 (h : SpG w1 P M va vn vs x1 v2 W) (u : Value) : SpG w1 P M va vn vs x1 u (W.setCell ⟨P, 2, none⟩ u) :=
  have h3 := h.hP
  ⟨h.below.setCell (p := ⟨P, 2, none⟩) h3 u, ⟨(World.cell?_setCell_other _ _ _ _ (by simp)).trans h.p.1, (World.cell?_setCell_other _ _ _ _ (by simp)).trans h.p.2.1, World.cell?_setCell_same _ _ _ h.p.2.2⟩, fun o => by simp [go_sem, h.pf o],
    own_other h.v (grown_cell (grown_self _ _)) (fun j hj e => by have a := h.vb j hj; injection e with e; omega), h.vb, h3, h.hM, by rw [setCell_size]; exact h.hMW⟩
end
theorem news_edge2 (w : World) (o : Obj) (x : Ed) : ∀ j u, (edCells x)[j]? = some u → ((w.alloc o).alloc (.cells #[.int .i64 x.f, .int .i64 x.t, .int .i64 x.k, .string x.a, .string x.b] 85)).cell? ((⟨w.heap.size + 1, 0, none⟩ : Addr).add j) = some u := by
  have h := news_edge (w.alloc o) x
  rw [show (w.alloc o).heap.size = w.heap.size + 1 by simp] at h
  exact h

set_option maxHeartbeats 3200000 in
set_option maxRecDepth 100000 in
theorem specParseProg (t : ByteArray) (w : World) (ht : t.size ≤ 1000000000) :
    Calls Tryz.prog 121 #[.string t] w (ParsedProg t w) := by
  go_enter Tryz.func121, Tryz.ntmps121
  go_wp2_with fail
  obtain ⟨W0, hW0, hb0, hs0, hA0⟩ := one_box w (.slice none 0 0) (.int .i64 0) (.slice none 0 0) 27
  have hf0 : ∀ o, W0.frozen? ⟨w.heap.size, o, none⟩ = false := fun o => by rw [← hW0]; simp [go_sem]
  rw [hW0]
  clear hW0
  refine (specSplit t 59 _ (by omega)).mono ?_
  rintro e w1 ⟨a, cap, rfl, hcap, ho1, hb1⟩
  have hwl : (pieces 59 t).length = (cut 59 t.data.toList).length := by simp [pieces]
  have hpm := parts_max t
  have hB1 : Below w.heap.size w w1 := hb0.trans (hb1.mono hb0.size)
  obtain ⟨a0, a1, a2⟩ := hA0.keep hs0 hb1
  have f0 : ∀ o, w1.frozen? ⟨w.heap.size, o, none⟩ = false := fun o => (hb1.frozen (p := ⟨w.heap.size, o, none⟩) hs0).trans (hf0 o)
  have hs1 : w.heap.size < w1.heap.size := Nat.lt_of_lt_of_le hs0 hb1.size
  clear hA0 hf0 hb0 hb1 hs0
  obtain ⟨n, hn⟩ : ∃ n, (pieces 59 t).length = n := ⟨_, rfl⟩
  rw [hn] at hcap ho1 ⊢
  have hpl : (cut 59 t.data.toList).length = n := by omega
  have HN := Lib.hid hpl
  clear hn hwl
  rw [hpl] at hpm
  clear hpl
  by_cases h2 : n < 2
  · have hno : ∀ ss p es, ¬ ValidT t.data.toList ss p es := fun ss p es h => by
      have := (spec_back h).1
      rw [HN.out] at this
      omega
    have HNO := Lib.hid hno
    clear hno ho1
    go_wp2
    refine bodyPost_ret (v := .tuple #[progV none 0 0 0 none 0 0, .bool false]) (by simp [results, Tryz.results121, go_sem, a0, a1, a2]) rfl (.inr ⟨HNO.out, rfl, ?_⟩)
    exact ((hB1.setCell (p := ⟨w.heap.size, 0, none⟩) (Nat.le_refl _) _).setCell (p := ⟨w.heap.size, 1, none⟩) (Nat.le_refl _) _).setCell (p := ⟨w.heap.size, 2, none⟩) (Nat.le_refl _) _
  · have hR := Row.owned ho1
    obtain ⟨b, o, rfl, hbW, x0⟩ := hR 0 _ (part_at t 0 (by rw [HN.out]; omega))
    obtain ⟨b', o', e, _, x1⟩ := hR 1 _ (part_at t 1 (by rw [HN.out]; omega))
    injection e with e
    injection e with e1 e2 _
    subst e1 e2
    replace x0 : w1.cell? ⟨b, o, none⟩ = some (.string (mkS (pt t.data.toList 0))) := x0
    have z0 := part_size t 0
    have z1 := part_size t 1
    clear hR
    go_wp2_with fail
    refine (specSplit (mkS (pt t.data.toList 0)) 32 _ (by rw [show (mkS (pt t.data.toList 0)).size = (pt t.data.toList 0).length from mk_size _]; omega)).mono ?_
    rintro e w2 ⟨va, vc, rfl, hvc, hov, hb2⟩
    rw [show pieces 32 (mkS (pt t.data.toList 0)) = sVars t.data.toList from rfl] at *
    have hB2 := hB1.trans (hb2.mono hB1.size)
    have hbW2 : b < w2.heap.size := Nat.lt_of_lt_of_le hbW hb2.size
    have hbW2' : ¬ b = w2.heap.size := by omega
    have x1' := (hb2.cell (p := ⟨b, o + 1, none⟩) hbW).trans x1
    clear x0 x1
    go_wp2_with fail
    obtain ⟨W3, hW3, hb3, hs3, hP3⟩ := one_box w2 (.slice va (sVars t.data.toList).length vc) (.int .i64 0) (.slice none 0 0) 27
    have pf3 : ∀ o, W3.frozen? ⟨w2.heap.size, o, none⟩ = false := fun o => by rw [← hW3]; simp [go_sem]
    rw [hW3]
    clear hW3
    refine (specParseNumber _ _ (by rw [show (mkS (pt t.data.toList 1)).size = (pt t.data.toList 1).length from mk_size _]; unfold maxLen; omega)).mono ?_
    intro e w4 hpe
    obtain ⟨rfl, hb4⟩ := pair_end hpe
    clear hpe
    rw [mkS_toList, show (if numN 0 999999 (pt t.data.toList 1) = true then valOf (pt t.data.toList 1) else 0) = sPts t.data.toList from rfl]
    have hB3 := hB2.trans (hb3.mono hB2.size)
    have hB4 := hB3.trans (hb4.mono hB3.size)
    obtain ⟨p0, p1, p2⟩ := hP3.keep hs3 hb4
    have pf4 : ∀ o, w4.frozen? ⟨w2.heap.size, o, none⟩ = false := fun o => (hb4.frozen (p := ⟨w2.heap.size, o, none⟩) hs3).trans (pf3 o)
    clear hP3 pf3 x1'
    have hvb : ∀ j, (Value.slice va (sVars t.data.toList).length vc).ownBlock = some j → j < w2.heap.size := fun j hj => (hov.lt j hj).2
    have hb24 : Below w2.heap.size w2 w4 := hb3.trans (hb4.mono hb3.size)
    have hb14 : Below w1.heap.size w1 w4 := hb2.trans (hb24.mono hb2.size)
    have hov4 := own_keeps hov hb24
    have hP1 := hb2.size
    have hsz4 : w2.heap.size < w4.heap.size := Nat.lt_of_lt_of_le hs3 hb4.size
    clear hov hb24 hb2 hb3 hb4 hB2 hB3 hs3 z0 z1 hbW2 hbW2'
    generalize w2.heap.size = P at *
    go_wp2
    have S5 : SpG w1 P w4.heap.size (.slice va (sVars t.data.toList).length vc) (sVars t.data.toList).length (strVals (sVars t.data.toList)) (.int .i64 (sPts t.data.toList)) (.slice none 0 0) (w4.setCell ⟨P, 1, none⟩ (.int .i64 (sPts t.data.toList))) :=
      ⟨hb14.setCell (p := ⟨P, 1, none⟩) hP1 _, ⟨(World.cell?_setCell_other _ _ _ _ (by simp)).trans p0, World.cell?_setCell_same _ _ _ p1, (World.cell?_setCell_other _ _ _ _ (by simp)).trans p2⟩, fun o => by simp [go_sem, pf4 o],
        own_other hov4 (grown_cell (grown_self _ _)) (fun j hj e => by have a := hvb j hj; injection e with e; omega), hvb, hP1, hsz4, by rw [setCell_size]; exact Nat.le_refl _⟩
    clear p0 p1 p2 pf4 hov4 hvb hb14
    generalize (w4.setCell ⟨P, 1, none⟩ (.int .i64 (sPts t.data.toList))) = w5 at *
    generalize w4.heap.size = M at *
    have hx : ∀ W, Below w1.heap.size w1 W → ∀ k, k + 2 < n → W.cell? ⟨b, o + (k + 2), none⟩ = some (.string (mkS (pt t.data.toList (k + 2)))) := fun W h k hk => by
      obtain ⟨b', o', e, _, x1⟩ := Row.owned ho1 (k + 2) _ (part_at t (k + 2) (by rw [HN.out]; exact hk))
      injection e with e
      injection e with e1 e2 _
      subst e1 e2
      exact (h.cell (p := ⟨b, _, none⟩) hbW).trans x1
    have hNc : ∀ W, Below w1.heap.size w1 W → Box3 W w.heap.size (.slice none 0 0) (.int .i64 0) (.slice none 0 0) ∧ (∀ o, W.frozen? ⟨w.heap.size, o, none⟩ = false) ∧ Below w.heap.size w W := fun W h =>
      ⟨⟨(h.cell (p := ⟨w.heap.size, 0, none⟩) hs1).trans a0, (h.cell (p := ⟨w.heap.size, 1, none⟩) hs1).trans a1, (h.cell (p := ⟨w.heap.size, 2, none⟩) hs1).trans a2⟩, fun o => (h.frozen (p := ⟨w.heap.size, o, none⟩) hs1).trans (f0 o), hB1.trans (h.mono hB1.size)⟩
    clear a0 a1 a2 f0 ho1 hB4
    have hpsz : ∀ i, (pt t.data.toList i).length ≤ t.size := part_size t
    have hNX : ∀ k, k + 2 < n → sEds t.data.toList (k + 1) = sEds t.data.toList k ++ [eR (pt t.data.toList (k + 2))] := fun k hk => sEds_next t.data.toList k (by rw [HN.out]; exact hk)
    have hEL : ∀ k, k + 2 ≤ n → (sEds t.data.toList k).length = k := fun k hk => sEds_length t.data.toList k (by rw [HN.out]; exact hk)
    obtain ⟨i0, hi, hz0, hz1', hz2⟩ := info_parts edgeInfo
    go_loopw [8] (fun i wr => ∃ (k : Nat) (v2 : Value), k + 2 ≤ n ∧ i = .int .i64 ((k + 2 : Nat) : Int) ∧ (∀ j, j < k → eG (pt t.data.toList (j + 2)) = true) ∧ SpG w1 P M (.slice va (sVars t.data.toList).length vc) (sVars t.data.toList).length (strVals (sVars t.data.toList)) (.int .i64 (sPts t.data.toList)) v2 wr ∧ wr.ownsRow M 85 5 v2 k (edVals (sEds t.data.toList k)))
      (fun i _ => n - (intOf i).toNat)
    case atStart => exact ⟨0, _, by omega, rfl, fun j hj => absurd hj (by omega), S5, by rw [show sEds t.data.toList 0 = [] by simp [sEds]]; exact World.ownsRow_nil _ _ _ _⟩
    case round =>
      obtain ⟨k, v2, hk, rfl, hc, S, hoe⟩ := hrel
      obtain ⟨a2, c2, rfl, hkc⟩ := own_form' hoe
      by_cases hlt : k + 2 < n
      · have hxk := hx wr S.below k hlt
        have hzk := hpsz (k + 2)
        have hX := Lib.hid hx
        have hNC := Lib.hid hNc
        have hPS := Lib.hid hpsz
        have hNXh := Lib.hid (hNX k hlt)
        have hC := Lib.hid hc
        clear hx hNc hpsz hNX hc hEL
        go_wp2_with fail
        refine (specEdge (mkS (pt t.data.toList (k + 2))) _ (by rw [show (mkS (pt t.data.toList (k + 2))).size = (pt t.data.toList (k + 2)).length from mk_size _]; omega)).mono ?_
        rintro e w6 ⟨rfl, hb6⟩
        rw [mkS_toList]
        have S6 := S.call hb6
        have hoe6 := own_keeps hoe hb6
        cases hG : eG (pt t.data.toList (k + 2)) with
        | false =>
          have hno : ∀ ss p es, ¬ ValidT t.data.toList ss p es := fun ss p es h => by
            obtain ⟨e1, _, _, e4, _⟩ := spec_back h
            rw [HN.out] at e1
            have := e4 k (by omega)
            rw [show (cut 59 t.data.toList).getD (k + 2) [] = pt t.data.toList (k + 2) from rfl, hG] at this
            cases this
          have HNO := Lib.hid hno
          obtain ⟨⟨n0, n1, n2⟩, nf, hbw⟩ := hNC.out _ S6.below
          have hs6 : w.heap.size < w6.heap.size := Nat.lt_of_lt_of_le hs1 S6.below.size
          have hs6' : ¬ w.heap.size = w6.heap.size := by omega
          clear hno hG hoe hoe6 hxk S
          generalize eR (pt t.data.toList (k + 2)) = x at *
          go_wp2
          refine bodyPost_ret (v := .tuple #[progV none 0 0 0 none 0 0, .bool false]) (by simp [results, Tryz.results121, go_sem, n0, n1, n2, hs6]) rfl (.inr ⟨HNO.out, rfl, ?_⟩)
          exact (((hbw.setCell (p := ⟨w.heap.size, 0, none⟩) (Nat.le_refl _) _).setCell (p := ⟨w.heap.size, 1, none⟩) (Nat.le_refl _) _).setCell (p := ⟨w.heap.size, 2, none⟩) (Nat.le_refl _) _).alloc (by rw [setCell_size, setCell_size, setCell_size]; omega) _
        | true =>
          have hc' : ∀ j, j < k + 1 → eG (pt t.data.toList (j + 2)) = true := fun j hj => by
            rcases Nat.lt_or_ge j k with h | h
            · exact hC.out j h
            · rw [show j = k by omega]; exact hG
          have HC' := Lib.hid hc'
          obtain ⟨p0, p1, p2⟩ := S6.p
          have pf := S6.pf
          have hP6 : P < w6.heap.size := Nat.lt_of_lt_of_le S6.hM S6.hMW
          have hP6' : ¬ P = w6.heap.size := by omega
          have hP6'' : ¬ P = w6.heap.size + 1 := by omega
          have hMW6 := S6.hMW
          have hPM := S6.hM
          have hq1 : k + 1 ≤ maxLen := by unfold maxLen; omega
          have hq2 : (k + 1) * 56 ≤ 140737488355328 := by omega
          clear hc' hG hoe hxk S
          generalize eR (pt t.data.toList (k + 2)) = x at *
          generalize sEds t.data.toList k = es at *
          clear p0 p1 p2 pf
          obtain ⟨_, _, p2⟩ := S6.p
          go_wp2_with (at_builtin; refine wpList_append_lies _ rfl (.tmp 49) (.tmp 51) 25 rfl M 85 i0 (.agg #[.int .i64 0, .int .i64 0, .int .i64 0, .string ⟨#[]⟩, .string ⟨#[]⟩]) 5 56 Tryz.underlying25 hi hz0 hz1' hz2 rfl (by decide) _ k _ rfl ((hoe6.alloc _).alloc _) ⟨w6.heap.size + 1, 0, none⟩ 1 1 (edCells x) rfl rfl (news_edge2 w6 _ x) (edCells_one x) (by omega) hq1 hq2 (by simp; omega) _ rfl ?_; intro g9 cap9 w9 hown9 hg9 _ _; have S9 := (S6.call (((Below.refl _ _).alloc (Nat.le_refl _) _).alloc (by simp) _)).grown hg9 (fun j hj => (hoe6.lt j hj).1); have p9 := S9.p.2.2; have pf9 := S9.pf)
          have hrel := S9.set2 (.slice (some ⟨g9, 0, none⟩) (k + 1) cap9)
          have hoe9 : (w9.setCell ⟨P, 2, none⟩ (.slice (some ⟨g9, 0, none⟩) (k + 1) cap9)).ownsRow M 85 5 (.slice (some ⟨g9, 0, none⟩) (k + 1) cap9) (k + 1) (edVals (es ++ [x])) := by
            rw [edVals_snoc]
            exact ownsRow_setCell_below hown9 (a := ⟨P, 2, none⟩) hPM _
          go_roundw
          case rel => first | exact ⟨k + 1, _, by omega, by go_num, HC'.out, hrel, by rw [hNXh.out]; exact hoe9⟩ | ((repeat apply Exists.intro); exact ⟨⟨k + 1, _, by omega, by go_num, HC'.out, hrel, by rw [hNXh.out]; exact hoe9⟩, rfl⟩)
          case measure => simp [intOf]; omega
      · have hkn : k + 2 = n := by omega
        have hel := hEL k hk
        have hpb := numV_bounds (pt t.data.toList 1)
        rw [show numV (pt t.data.toList 1) = sPts t.data.toList from rfl] at hpb
        have hvs : (sVars t.data.toList).length ≤ maxLen ∧ ∀ s ∈ sVars t.data.toList, s.size ≤ maxLen := by
          have h1 := hpsz 0
          refine ⟨?_, fun s hs => ?_⟩
          · have := pieces_length 32 (mkS (pt t.data.toList 0))
            rw [show (mkS (pt t.data.toList 0)).size = (pt t.data.toList 0).length from mk_size _] at this
            unfold maxLen
            show (pieces 32 (mkS (pt t.data.toList 0))).length ≤ _
            omega
          · have := piece_size 32 (mkS (pt t.data.toList 0)) s hs
            rw [show (mkS (pt t.data.toList 0)).size = (pt t.data.toList 0).length from mk_size _] at this
            unfold maxLen
            omega
        have hkm : k ≤ maxLen := by unfold maxLen; omega
        have hno : ∀ ss p es, ValidT t.data.toList ss p es → ss = sVars t.data.toList ∧ p = sPts t.data.toList ∧ es = sEds t.data.toList k := fun ss p es h => by
          obtain ⟨e1, e2, e3, _, e5⟩ := spec_back h
          rw [HN.out] at e1
          have : es.length = k := by omega
          rw [this] at e5
          exact ⟨e2.symm, e3.symm, e5.symm⟩
        have HNOS := Lib.hid hno
        have HVS := Lib.hid hvs
        have hI := specIsProgram va a2 vc c2 (sVars t.data.toList) (sPts t.data.toList) (sEds t.data.toList k) wr ⟨hvs.1, hvs.2, Row.owned S.v⟩ ⟨by omega, by omega⟩ ⟨by rw [hel]; exact hkm, by have h := Row.ownedN hoe; exact h⟩
        rw [hel] at hI
        obtain ⟨p0, p1, p2⟩ := S.p
        have hNC := Lib.hid hNc
        have hPS := Lib.hid hpsz
        clear hno hvs hx hNX hEL hNc hpsz hc
        go_wp2_with fail
        refine hI.mono ?_
        clear hI
        rintro e w6 ⟨rfl, hb6⟩
        have S6 := S.call hb6
        have hoe6 := own_keeps hoe hb6
        cases hp : progB (sVars t.data.toList) (sPts t.data.toList) (sEds t.data.toList k) with
        | false =>
          have hno : ∀ ss p es, ¬ ValidT t.data.toList ss p es := fun ss p es h => by
            obtain ⟨rfl, rfl, rfl⟩ := HNOS.out ss p es h
            rw [h.1] at hp
            cases hp
          have HNO := Lib.hid hno
          obtain ⟨⟨n0, n1, n2⟩, nf, hbw⟩ := hNC.out _ S6.below
          clear hno hp p0 p1 p2
          go_wp2
          refine bodyPost_ret (v := .tuple #[progV none 0 0 0 none 0 0, .bool false]) (by simp [results, Tryz.results121, go_sem, n0, n1, n2]) rfl (.inr ⟨HNO.out, rfl, ?_⟩)
          exact ((hbw.setCell (p := ⟨w.heap.size, 0, none⟩) (Nat.le_refl _) _).setCell (p := ⟨w.heap.size, 1, none⟩) (Nat.le_refl _) _).setCell (p := ⟨w.heap.size, 2, none⟩) (Nat.le_refl _) _
        | true =>
          have hTx := specProgText va a2 vc c2 (sVars t.data.toList) (sPts t.data.toList) (sEds t.data.toList k) w6 ⟨HVS.out.1, HVS.out.2, Row.owned S6.v⟩ ⟨by omega, by omega⟩ ⟨by rw [hel]; exact hkm, progB_ok hp, by have h := Row.ownedN hoe6; exact h⟩
          rw [hel, progT_yes hp] at hTx
          obtain ⟨p0', p1', p2'⟩ := S6.p
          have HP := Lib.hid hp
          clear hp p0 p1 p2
          go_wp2_with fail
          refine hTx.mono ?_
          clear hTx
          rintro e w7 ⟨rfl, hb7⟩
          have S7 := S6.call hb7
          have hoe7 := own_keeps hoe6 hb7
          clear p0' p1' p2'
          by_cases heq : progL (sVars t.data.toList) (sPts t.data.toList) (sEds t.data.toList k) = t.data.toList
          · have htx : ((⟨(progL (sVars t.data.toList) (sPts t.data.toList) (sEds t.data.toList k)).toArray⟩ : ByteArray).toList == t.toList) = true := lists_eq (by rw [ByteArray.toList_eq]; exact heq)
            have hV : ValidT t.data.toList (sVars t.data.toList) (sPts t.data.toList) (sEds t.data.toList k) := ⟨HP.out, heq.symm⟩
            have HV := Lib.hid hV
            clear hV heq
            generalize (⟨(progL (sVars t.data.toList) (sPts t.data.toList) (sEds t.data.toList k)).toArray⟩ : ByteArray) = tx at *
            obtain ⟨m0, m1, m2⟩ := S7.p
            obtain ⟨⟨n0, n1, n2⟩, nf, hbw⟩ := hNC.out _ S7.below
            have hNP : ¬ w.heap.size = P := by omega
            go_wp2
            have hwb := hs1
            have key : ∀ (base e size n : Nat) (v : Value) (xs : List Value), w1.heap.size ≤ base → w7.ownsRow base e size v n xs → (((w7.setCell ⟨w.heap.size, 0, none⟩ (.slice va (sVars t.data.toList).length vc)).setCell ⟨w.heap.size, 1, none⟩ (.int .i64 (sPts t.data.toList))).setCell ⟨w.heap.size, 2, none⟩ (.slice a2 k c2)).ownsRow base e size v n xs := fun base e size n v xs hbase h =>
              have hlt : w.heap.size < base := Nat.lt_of_lt_of_le hwb hbase
              ownsRow_setCell_below (ownsRow_setCell_below (ownsRow_setCell_below h (a := ⟨w.heap.size, 0, none⟩) hlt _) (a := ⟨w.heap.size, 1, none⟩) hlt _) (a := ⟨w.heap.size, 2, none⟩) hlt _
            have hPM := S7.hM
            have hPl := S7.hP
            have k1 := key _ _ _ _ _ _ (Nat.le_refl _) S7.v
            have k2 := key _ _ _ _ _ _ (by omega) hoe7
            have hbE := ((hbw.setCell (p := ⟨w.heap.size, 0, none⟩) (Nat.le_refl _) (.slice va (sVars t.data.toList).length vc)).setCell (p := ⟨w.heap.size, 1, none⟩) (Nat.le_refl _) (.int .i64 (sPts t.data.toList))).setCell (p := ⟨w.heap.size, 2, none⟩) (Nat.le_refl _) (.slice a2 k c2)
            have hMs : M ≤ (((w7.setCell ⟨w.heap.size, 0, none⟩ (.slice va (sVars t.data.toList).length vc)).setCell ⟨w.heap.size, 1, none⟩ (.int .i64 (sPts t.data.toList))).setCell ⟨w.heap.size, 2, none⟩ (.slice a2 k c2)).heap.size := by
              rw [setCell_size, setCell_size, setCell_size]
              exact S7.hMW
            have hvb := S7.vb
            clear key
            refine bodyPost_ret (v := .tuple #[progV va (sVars t.data.toList).length vc (sPts t.data.toList) a2 k c2, .bool true]) (by simp [results, Tryz.results121, go_sem, n0, n1, n2]) rfl (.inl ⟨va, vc, a2, c2, sVars t.data.toList, sPts t.data.toList, sEds t.data.toList k, M, HV.out, by rw [hel], hvc, by rw [hel]; exact hkc, by omega, hMs, own_base k1 (by omega), row_of_own k1 (fun j hj => by have := hvb j hj; omega), by rw [hel]; exact k2, hbE⟩)
          · have htx : ((⟨(progL (sVars t.data.toList) (sPts t.data.toList) (sEds t.data.toList k)).toArray⟩ : ByteArray).toList == t.toList) = false := lists_ne (by rw [ByteArray.toList_eq]; exact heq)
            have hno : ∀ ss p es, ¬ ValidT t.data.toList ss p es := fun ss p es h => by
              obtain ⟨rfl, rfl, rfl⟩ := HNOS.out ss p es h
              exact heq h.2.symm
            have HNO := Lib.hid hno
            clear hno heq
            generalize (⟨(progL (sVars t.data.toList) (sPts t.data.toList) (sEds t.data.toList k)).toArray⟩ : ByteArray) = tx at *
            obtain ⟨⟨n0, n1, n2⟩, nf, hbw⟩ := hNC.out _ S7.below
            go_wp2
            refine bodyPost_ret (v := .tuple #[progV none 0 0 0 none 0 0, .bool false]) (by simp [results, Tryz.results121, go_sem, n0, n1, n2]) rfl (.inr ⟨HNO.out, rfl, ?_⟩)
            exact ((hbw.setCell (p := ⟨w.heap.size, 0, none⟩) (Nat.le_refl _) _).setCell (p := ⟨w.heap.size, 1, none⟩) (Nat.le_refl _) _).setCell (p := ⟨w.heap.size, 2, none⟩) (Nat.le_refl _) _
end Go.Proofs.YtpmmjaceehlpiaaGreatDoor

namespace Go.Proofs.YtpmmjaceehlpiaaGreatDoor
open Go Go.RowKit

theorem got_own_lt {w : World} {base e n M : Nat} {a : Option Addr} {c : Nat} {xs : List Value} (_h : w.ownsRow base e 1 (.slice a n c) n xs) (hr : Row w M a xs) (hn : 0 < xs.length) : ∀ j, (Value.slice a n c).ownBlock = some j → j < M := by
  intro j hj
  obtain ⟨b, o, ha, hb, _⟩ := hr 0 _ (List.getElem?_eq_getElem hn)
  subst ha
  have : b = j := by simpa [Value.ownBlock] using hj
  omega

/-- The call answered this program in rows of its own. -/
def Got (q : Bool) (ss : List ByteArray) (p : Int) (es : List Ed) (w : World) (e : Ending) (w' : World) : Prop :=
  ∃ a ca b cb M, e = .returned (.tuple #[progV a ss.length ca p b es.length cb, .bool q]) ∧ ss.length ≤ ca ∧ es.length ≤ cb ∧ w.heap.size ≤ M ∧ M ≤ w'.heap.size ∧
    w'.ownsRow w.heap.size 9 1 (.slice a ss.length ca) ss.length (strVals ss) ∧ (∀ j, (Value.slice a ss.length ca).ownBlock = some j → j < M) ∧ w'.ownsRow M 85 5 (.slice b es.length cb) es.length (edVals es) ∧ Below w.heap.size w w'
/-- A parsed program: all that a law wants to know of it. -/
structure Parsed (t : ByteArray) (q : Bool) (ss : List ByteArray) (p : Int) (es : List Ed) : Prop where
  is : q = progB ss p es
  no : q = false → ss = [] ∧ p = 0 ∧ es = []
  yes : q = true → t.data.toList = progL ss p es
  len : ss.length ≤ 4
  size : ∀ s ∈ ss, s.size ≤ 8
  pts : 0 ≤ p ∧ p ≤ 12
  edges : es.length ≤ 24
  ok : ∀ x ∈ es, x.Ok
theorem parsed (t : ByteArray) : ∃ q ss p es, Parsed t q ss p es ∧ ∀ w e w', ParsedProg t w e w' → Got q ss p es w e w' := by
  rcases Classical.em (∃ ss p es, ValidT t.data.toList ss p es) with ⟨ss, p, es, h⟩ | h
  · have hp := prog_parts h.1
    have hv := vars_small hp.1
    refine ⟨true, ss, p, es, ⟨h.1.symm, (fun e => by cases e), fun _ => h.2, hv.1, fun s hs => ?_, by omega, hp.2.2.1, progB_ok h.1⟩, ?_⟩
    · have := mem_total s ss hs
      omega
    · rintro w e w' (⟨a, ca, b, cb, ss', p', es', M, hV, he, q1, q2, q3, q4, q5, q6, q7⟩ | ⟨hno, _⟩)
      · obtain ⟨rfl, rfl, rfl⟩ := valid_one h hV
        have hpos : 0 < (strVals ss).length := by
          obtain ⟨x, r, hr⟩ := vars_ne hp.1
          rw [hr]
          simp [strVals]
        exact ⟨a, ca, b, cb, M, he, q1, q2, q3, q4, q5, got_own_lt q5 q6 hpos, q7⟩
      · exact absurd h (hno ss p es)
  · refine ⟨false, [], 0, [], ⟨rfl, fun _ => ⟨rfl, rfl, rfl⟩, (fun e => by cases e), by simp, (fun s hs => by simp at hs), by omega, by simp, (fun x hx => by simp at hx)⟩, ?_⟩
    rintro w e w' (⟨a, ca, b, cb, ss', p', es', M, hV, _⟩ | ⟨_, he, hb⟩)
    · exact absurd ⟨ss', p', es', hV⟩ h
    · exact ⟨none, 0, none, 0, w.heap.size, he, Nat.zero_le _, Nat.zero_le _, Nat.le_refl _, hb.size, World.ownsRow_nil _ _ _ _, (fun j hj => by simp [Value.ownBlock] at hj), World.ownsRow_nil _ _ _ _, hb⟩

end Go.Proofs.YtpmmjaceehlpiaaGreatDoor
