/-
  The program's reader of a text: closures that share a place in the text and whether all was right. Its worlds: of the old blocks only these two turn.
-/
import Derived.Test.YtabedmjaodinbaaGreatDoorReadBack
import Derived.Test.YtabedmjaodinbaaGreatDoorGuess
import Derived.Test.YtabedmjaodinbaaGreatDoorImplSplit
import Derived.Test.YtabedmjaodinbaaGreatDoorParse
import Derived.Test.YtabedmjaodinbaaGreatDoorEdges
import Derived.Laws.EntriesVeiled
import Derived.Laws.Pointers
namespace Go.Proofs.YtabedmjaodinbaaGreatDoor
open Go Go.RowKit

/-- Of the old blocks only B + 2 and B + 3 may have turned. -/
structure Two (B : Nat) (w w' : World) : Prop where
  below : Below (B + 2) w w'
  block : ∀ k, B + 4 ≤ k → k < w.heap.size → w'.heap[k]? = w.heap[k]?
theorem Two.refl (B : Nat) (w : World) : Two B w w := ⟨Below.refl _ _, fun _ _ _ => rfl⟩
theorem Two.trans {B : Nat} {a b c : World} (h : Two B a b) (k : Two B b c) : Two B a c :=
  ⟨h.below.trans k.below, fun i hi hs => (k.block i hi (Nat.lt_of_lt_of_le hs h.below.size)).trans (h.block i hi hs)⟩
theorem Two.of {B : Nat} {w w' : World} (h : Below w.heap.size w w') (hB : B + 4 ≤ w.heap.size) : Two B w w' := ⟨h.mono (by omega), fun k _ hk => h.block k hk⟩
theorem Two.set {B : Nat} {w w' : World} (h : Two B w w') {p : Addr} (hp : p.block = B + 2 ∨ p.block = B + 3) (u : Value) : Two B w (w'.setCell p u) :=
  h.trans ⟨(Below.refl _ _).setCell (by omega) u, fun k hk _ => Below.heap_setCell _ _ _ _ (by omega)⟩
theorem Two.at_ {B : Nat} {w w' : World} (h : Two B w w') {k : Nat} (h1 : k < B + 2 ∨ B + 4 ≤ k) (h2 : k < w.heap.size) : w'.heap[k]? = w.heap[k]? := by
  rcases h1 with h1 | h1
  · exact h.below.block k h1
  · exact h.block k h1 h2
theorem Two.cell {B : Nat} {w w' : World} (h : Two B w w') {p : Addr} (h1 : p.block < B + 2 ∨ B + 4 ≤ p.block) (h2 : p.block < w.heap.size) : w'.cell? p = w.cell? p := World.cell?_of_block (w := w) (h.at_ h1 h2)
theorem Two.frozen {B : Nat} {w w' : World} (h : Two B w w') {p : Addr} (h1 : p.block < B + 2 ∨ B + 4 ≤ p.block) (h2 : p.block < w.heap.size) : w'.frozen? p = w.frozen? p := World.frozen?_of_block (w := w) (h.at_ h1 h2)
theorem Two.own {B : Nat} {w w' : World} (h : Two B w w') {base e size n : Nat} {v : Value} {xs : List Value} (ho : w.ownsRow base e size v n xs) (hb : B + 4 ≤ base) : w'.ownsRow base e size v n xs :=
  ⟨ho.1, ho.2.imp id fun ⟨g, cap, cur, a, b, hh, r⟩ => ⟨g, cap, cur, a, b, by
    have hg : g < w.heap.size := by
      rcases Nat.lt_or_ge g w.heap.size with h1 | h1
      · exact h1
      · rw [Array.getElem?_eq_none h1] at hh; cases hh
    rw [h.block g (by omega) hg]
    exact hh, r⟩⟩

theorem Two.base {B : Nat} {w w' w0 : World} (h : Two B w w') (hb : Below w0.heap.size w0 w) (hB : w0.heap.size ≤ B) : Below w0.heap.size w0 w' := hb.trans (h.below.mono (by omega))

theorem Two.setNew {B : Nat} {w w' : World} (h : Two B w w') {p : Addr} (hp : w.heap.size ≤ p.block) (hB : B + 4 ≤ p.block) (u : Value) : Two B w (w'.setCell p u) :=
  ⟨h.below.setCell (by omega) u, fun k hk hs => (Below.heap_setCell _ _ _ _ (by omega)).trans (h.block k hk hs)⟩
theorem Two.alloc {B : Nat} {w w' : World} (h : Two B w w') (hB : B + 2 ≤ w'.heap.size) (o : Obj) : Two B w (w'.alloc o) :=
  ⟨h.below.alloc hB o, fun k hk hs => (Below.heap_alloc _ _ _ (Nat.lt_of_lt_of_le hs h.below.size)).trans (h.block k hk hs)⟩

/-- A pointer to a block's first cell. -/
abbrev ptrTo (b : Nat) : Value := .pointer (some ⟨b, 0, none⟩)
/-- The reader's blocks: the text, the place, whether all was right, three closures. -/
structure Rd (W : World) (B : Nat) (t : ByteArray) (n : Nat) (g : Bool) : Prop where
  size : B + 7 ≤ W.heap.size
  text : W.cell? ⟨B, 0, none⟩ = some (.string t)
  place : W.cell? ⟨B + 2, 0, none⟩ = some (.int .i64 n)
  placef : W.frozen? ⟨B + 2, 0, none⟩ = false
  good : W.cell? ⟨B + 3, 0, none⟩ = some (.bool g)
  goodf : W.frozen? ⟨B + 3, 0, none⟩ = false
  piece : W.cell? ⟨B + 4, 0, none⟩ = some (.func (.func 62) #[] #[ptrTo B, ptrTo (B + 2)])
  number : W.cell? ⟨B + 5, 0, none⟩ = some (.func (.func 64) #[] #[ptrTo (B + 4), ptrTo (B + 3)])
  stmt : W.cell? ⟨B + 6, 0, none⟩ = some (.func (.func 66) #[] #[ptrTo (B + 4), ptrTo (B + 3)])
theorem Rd.below {W W' : World} {B : Nat} {t : ByteArray} {n : Nat} {g : Bool} (h : Rd W B t n g) (hb : Below W.heap.size W W') : Rd W' B t n g :=
  have hs := h.size
  have hc : ∀ k, k < B + 7 → W'.cell? ⟨k, 0, none⟩ = W.cell? ⟨k, 0, none⟩ := fun k hk => hb.cell (p := ⟨k, 0, none⟩) (by show k < _; omega)
  have hf : ∀ k, k < B + 7 → W'.frozen? ⟨k, 0, none⟩ = W.frozen? ⟨k, 0, none⟩ := fun k hk => hb.frozen (p := ⟨k, 0, none⟩) (by show k < _; omega)
  ⟨Nat.le_trans hs hb.size, (hc _ (by omega)).trans h.text, (hc _ (by omega)).trans h.place, (hf _ (by omega)).trans h.placef, (hc _ (by omega)).trans h.good, (hf _ (by omega)).trans h.goodf, (hc _ (by omega)).trans h.piece, (hc _ (by omega)).trans h.number, (hc _ (by omega)).trans h.stmt⟩
theorem setCell_size (w : World) (p : Addr) (u : Value) : (w.setCell p u).heap.size = w.heap.size := by simp [World.setCell]
theorem Rd.setPlace {W : World} {B : Nat} {t : ByteArray} {n : Nat} {g : Bool} (h : Rd W B t n g) (m : Nat) : Rd (W.setCell ⟨B + 2, 0, none⟩ (.int .i64 m)) B t m g :=
  have hc : ∀ k, k ≠ B + 2 → (W.setCell ⟨B + 2, 0, none⟩ (.int .i64 m)).cell? ⟨k, 0, none⟩ = W.cell? ⟨k, 0, none⟩ := fun k hk => World.cell?_of_block (Below.heap_setCell _ _ _ _ hk)
  ⟨by rw [setCell_size]; exact h.size, (hc _ (by omega)).trans h.text, World.cell?_setCell_same _ _ _ h.place, by simp [go_sem, h.placef], (hc _ (by omega)).trans h.good, by simp [go_sem, h.goodf], (hc _ (by omega)).trans h.piece, (hc _ (by omega)).trans h.number, (hc _ (by omega)).trans h.stmt⟩
theorem Rd.setGood {W : World} {B : Nat} {t : ByteArray} {n : Nat} {g : Bool} (h : Rd W B t n g) (m : Bool) : Rd (W.setCell ⟨B + 3, 0, none⟩ (.bool m)) B t n m :=
  have hc : ∀ k, k ≠ B + 3 → (W.setCell ⟨B + 3, 0, none⟩ (.bool m)).cell? ⟨k, 0, none⟩ = W.cell? ⟨k, 0, none⟩ := fun k hk => World.cell?_of_block (Below.heap_setCell _ _ _ _ hk)
  ⟨by rw [setCell_size]; exact h.size, (hc _ (by omega)).trans h.text, (hc _ (by omega)).trans h.place, by simp [go_sem, h.placef], World.cell?_setCell_same _ _ _ h.good, by simp [go_sem, h.goodf], (hc _ (by omega)).trans h.piece, (hc _ (by omega)).trans h.number, (hc _ (by omega)).trans h.stmt⟩

theorem Rd.setOther {W : World} {B : Nat} {t : ByteArray} {n : Nat} {g : Bool} (h : Rd W B t n g) {p : Addr} (hp : B + 7 ≤ p.block) (u : Value) : Rd (W.setCell p u) B t n g :=
  have hc : ∀ k, k < B + 7 → (W.setCell p u).cell? ⟨k, 0, none⟩ = W.cell? ⟨k, 0, none⟩ := fun k hk => ((Below.refl (B + 7) W).setCell hp u).cell (p := ⟨k, 0, none⟩) hk
  have hf : ∀ k, k < B + 7 → (W.setCell p u).frozen? ⟨k, 0, none⟩ = W.frozen? ⟨k, 0, none⟩ := fun k hk => ((Below.refl (B + 7) W).setCell hp u).frozen (p := ⟨k, 0, none⟩) hk
  ⟨by rw [setCell_size]; exact h.size, (hc _ (by omega)).trans h.text, (hc _ (by omega)).trans h.place, (hf _ (by omega)).trans h.placef, (hc _ (by omega)).trans h.good, (hf _ (by omega)).trans h.goodf, (hc _ (by omega)).trans h.piece, (hc _ (by omega)).trans h.number, (hc _ (by omega)).trans h.stmt⟩

/-- The tables that reading needs. -/
structure Tabs (w : World) : Prop where
  sw : Switch w
  signs : HasSigns w
  names : HasNamesTable w
  pows : Pows w
  sents : Sents w
theorem Tabs.keeps {w w' : World} (h : Tabs w) (hb : Below w.heap.size w w') : Tabs w' := ⟨h.sw.keeps hb, h.signs.keeps hb, h.names.keeps hb, h.pows.keeps hb, h.sents.keeps hb⟩

/-- A call by the reader: it answers, goes on to another place, and turns nothing else. -/
def Went (B : Nat) (t : ByteArray) (x : Value) (n : Nat) (g : Bool) (w : World) (e : Ending) (w' : World) : Prop := e = .returned x ∧ Rd w' B t n g ∧ Two B w w'

theorem cut_pc (t : ByteArray) (n : Nat) (c : UInt8) : cutL (t.extract (min (n : Int) (t.size : Int)).toNat t.size) ⟨#[c]⟩ = ⟨(pc c t.data.toList n).toArray⟩ := by
  have h : (t.extract (min (n : Int) (t.size : Int)).toNat t.size).data.toList = t.data.toList.drop n := by
    rw [show (min (n : Int) (t.size : Int)).toNat = min n t.size by omega]
    rw [ByteArray.data_extract, Array.toList_extract, List.extract_eq_take_drop]
    rcases Nat.lt_or_ge n t.size with h1 | h1
    · rw [Nat.min_eq_left (by omega), List.take_of_length_le (by simp)]
    · rw [Nat.min_eq_right h1, List.drop_eq_nil_of_le (i := n) (by simpa using h1)]
      simp
  rw [cutL, cutOf, show (⟨#[c]⟩ : ByteArray).data.toList = [c] from rfl, cut_piece, h, pc]

set_option maxRecDepth 100000 in
theorem readPiece (B : Nat) (t : ByteArray) (n : Nat) (g : Bool) (c : UInt8) (w : World) (h : Rd w B t n g) (ht : t.size ≤ 1000000000) (hn : n ≤ 100000000000) (hsw : Switch w) :
    Calls Tryz.prog 62 #[.string ⟨#[c]⟩, ptrTo B, ptrTo (B + 2)] w (Went B t (.string ⟨(pc c t.data.toList n).toArray⟩) (nx c t.data.toList n) g w) := by
  obtain ⟨h0, h1, h2, h3, _, _, _, _, _⟩ := id h
  have hlt : t.toList.length = t.size := by simp [ByteArray.toList_eq]
  go_enter Tryz.func62, Tryz.ntmps62
  go_wp2_with fail
  refine (libCut _ ⟨#[c]⟩ _ (by rw [ByteArray.size_extract]; omega) hsw).mono ?_
  rintro e w1 ⟨rfl, m, rfl⟩
  have hr := h.below (below_drewN w m)
  obtain ⟨_, k1, k2, k3, _, _, _, _, _⟩ := id hr
  rw [cut_pc]
  generalize cutR _ _ = xr
  generalize cutF _ _ = xf
  have hl : (⟨(pc c t.data.toList n).toArray⟩ : ByteArray).size = (pc c t.data.toList n).length := mk_size _
  have hp := pc_length c t.data.toList n
  have hnx : nx c t.data.toList n = n + ((pc c t.data.toList n).length + 1) := by unfold nx; omega
  generalize pc c t.data.toList n = f at *
  have hts : t.data.toList.length = t.size := by simp
  rw [hts] at hp
  have hlf : (⟨f.toArray⟩ : ByteArray).toList.length = f.length := by simp [ByteArray.toList_eq]
  have HN := Lib.hid hnx
  clear hnx
  go_wp2
  go_ret
  rw [HN.out]
  have hset := hr.setPlace (n + (f.length + 1))
  rw [show ((n + (f.length + 1) : Nat) : Int) = (n : Int) + ((f.length : Int) + 1) by omega] at hset
  exact ⟨rfl, hset, (Two.of (below_drewN w m) (by omega)).set (.inl rfl) _⟩

theorem pair_end {lo hi : Int} {l : List UInt8} {w w' : World} {e : Ending} (h : PairEnd lo hi l w e w') : e = .returned (.tuple #[.int .i64 (if num lo hi l = true then valOf l else 0), .bool (num lo hi l)]) ∧ Below w.heap.size w w' := by
  obtain ⟨h1, h2⟩ := h
  cases hn : num lo hi l <;> simp_all

set_option maxRecDepth 100000 in
theorem readNumber (B : Nat) (t : ByteArray) (n : Nat) (g : Bool) (c : UInt8) (w w0 : World) (h : Rd w B t n g) (ht : t.size ≤ 1000000000) (hn : n ≤ 100000000000) (hT : Tabs w0) (hB : w0.heap.size ≤ B) (hb : Below w0.heap.size w0 w) :
    Calls Tryz.prog 64 #[.string ⟨#[c]⟩, ptrTo (B + 4), ptrTo (B + 3)] w (Went B t (.int .i64 (numV (pc c t.data.toList n))) (nx c t.data.toList n) (g && num 0 999999 (pc c t.data.toList n)) w) := by
  have h6 := h.piece
  go_enter Tryz.func64, Tryz.ntmps64
  go_wp2_with fail
  refine (readPiece B t n g c _ h ht hn (hT.keeps hb).sw).mono ?_
  rintro e w1 ⟨rfl, hr1, htw1⟩
  have hp := pc_length c t.data.toList n
  rw [show t.data.toList.length = t.size by simp] at hp
  generalize pc c t.data.toList n = f at *
  generalize nx c t.data.toList n = m at *
  have hT1 := hT.keeps (htw1.base hb hB)
  go_wp2_with fail
  refine (parseNumber ⟨f.toArray⟩ _ (by rw [mk_size]; omega) hT1.pows hT1.sents).mono ?_
  intro e w2 hpe
  obtain ⟨rfl, hb2⟩ := pair_end hpe
  rw [show (⟨f.toArray⟩ : ByteArray).data.toList = f from rfl]
  have hV : numV f = if num 0 999999 f = true then valOf f else 0 := rfl
  rw [← hV]
  generalize numV f = v at *
  generalize num 0 999999 f = b at *
  have hr2 := hr1.below hb2
  have k4 := hr2.good
  have k5 := hr2.goodf
  clear hV hpe
  have hend : Rd (w2.setCell ⟨B + 3, 0, none⟩ (.bool (g && b))) B t m (g && b) := hr2.setGood _
  cases g
  all_goals
    go_wp2
    go_ret
    exact ⟨rfl, hend, (htw1.trans (Two.of hb2 (by have := hr1.size; omega))).set (.inr rfl) _⟩

set_option maxRecDepth 100000 in
theorem readStmt (B : Nat) (t : ByteArray) (n : Nat) (g : Bool) (w w0 : World) (h : Rd w B t n g) (ht : t.size ≤ 1000000000) (hn : n ≤ 100000000000) (hT : Tabs w0) (hB : w0.heap.size ≤ B) (hb : Below w0.heap.size w0 w) :
    Calls Tryz.prog 66 #[ptrTo (B + 4), ptrTo (B + 3)] w (Went B t (stV (kOf (pc 59 t.data.toList n)) (aOf (pc 59 t.data.toList n)) (bOf (pc 59 t.data.toList n))) (nx 59 t.data.toList n) (g && parsesS (mkS (pc 59 t.data.toList n))) w) := by
  have h6 := h.piece
  have hz := h.size
  have hz1 : B + 4 < w.heap.size := by omega
  have hz2 : ¬ B + 4 = w.heap.size := by omega
  go_enter Tryz.func66, Tryz.ntmps66
  go_wp2_with fail
  obtain ⟨W0, hW0, hb0, hs0, hA0⟩ := one_box w (.int .i64 0) (.string ⟨#[]⟩) (.string ⟨#[]⟩) 42
  have hf0 : ∀ o, W0.frozen? ⟨w.heap.size, o, none⟩ = false := fun o => by rw [← hW0]; simp [go_sem]
  rw [hW0]
  clear hW0
  have hr0 := h.below hb0
  refine (readPiece B t n g 59 _ hr0 ht hn (hT.keeps (hb.trans (hb0.mono (by omega)))).sw).mono ?_
  rintro e w1 ⟨rfl, hr1, htw1⟩
  have hp := pc_length 59 t.data.toList n
  rw [show t.data.toList.length = t.size by simp] at hp
  generalize pc 59 t.data.toList n = f at *
  generalize nx 59 t.data.toList n = m at *
  have hTw := (Two.of hb0 (by omega)).trans htw1
  have hT1 := hT.keeps (hTw.base hb hB)
  go_wp2_with fail
  refine (implParse ⟨f.toArray⟩ _ (by rw [mk_size]; omega) hT1.sw hT1.signs hT1.names).mono ?_
  rintro e w2 ⟨rfl, hb2⟩
  have hV : parseV ⟨f.toArray⟩ = .tuple #[stV (kOf f) (aOf f) (bOf f), .bool (parsesS (mkS f))] := by
    rw [parseV, kOf, aOf, bOf, mkS]
    cases parsesS ⟨f.toArray⟩ <;> rfl
  rw [hV]
  generalize kOf f = k at *
  generalize aOf f = a at *
  generalize bOf f = b at *
  generalize parsesS (mkS f) = y at *
  have hr2 := hr1.below hb2
  clear hV
  have hN : ∀ o, w2.cell? ⟨w.heap.size, o, none⟩ = W0.cell? ⟨w.heap.size, o, none⟩ := fun o => (hb2.cell (p := ⟨w.heap.size, o, none⟩) (Nat.lt_of_lt_of_le hs0 htw1.below.size)).trans (htw1.cell (p := ⟨w.heap.size, o, none⟩) (.inr (by show B + 4 ≤ w.heap.size; omega)) hs0)
  have hNf : ∀ o, w2.frozen? ⟨w.heap.size, o, none⟩ = false := fun o => ((hb2.frozen (p := ⟨w.heap.size, o, none⟩) (Nat.lt_of_lt_of_le hs0 htw1.below.size)).trans (htw1.frozen (p := ⟨w.heap.size, o, none⟩) (.inr (by show B + 4 ≤ w.heap.size; omega)) hs0)).trans (hf0 o)
  have c0 := (hN 0).trans hA0.1
  have c1 := (hN 1).trans hA0.2.1
  have c2 := (hN 2).trans hA0.2.2
  have hz3 : w.heap.size < w2.heap.size := Nat.lt_of_lt_of_le hs0 (Nat.le_trans htw1.below.size hb2.size)
  have hz4 : ¬ w.heap.size = w2.heap.size := by omega
  have hz5 : B + 3 < w2.heap.size := by omega
  have hz6 : ¬ B + 3 = w2.heap.size := by omega
  have hz7 : ¬ B + 3 = w.heap.size := by omega
  have hz8 : ¬ w2.heap.size = B + 3 := by omega
  have hz9 : ¬ w.heap.size = B + 3 := by omega
  have hza : ¬ w2.heap.size = w.heap.size := by omega
  clear hN
  have k4 := hr2.good
  have k5 := hr2.goodf
  have hTw2 := hTw.trans (Two.of hb2 (by have := hr1.size; omega))
  cases g
  all_goals
    go_wp2
    refine bodyPost_ret (v := stV k a b) (by simp [results, Tryz.results66, go_sem, c0, c1, c2, hz3, hz4]) rfl ⟨rfl, ?_, ?_⟩
    · exact ((((hr2.setGood _).setOther (p := ⟨w.heap.size, 0, none⟩) (by show B + 7 ≤ w.heap.size; omega) _).setOther (p := ⟨w.heap.size, 1, none⟩) (by show B + 7 ≤ w.heap.size; omega) _).setOther (p := ⟨w.heap.size, 2, none⟩) (by show B + 7 ≤ w.heap.size; omega) _).below ((Below.refl _ _).alloc (Nat.le_refl _) _)
    · exact ((((hTw2.set (.inr rfl) _).setNew (p := ⟨w.heap.size, 0, none⟩) (Nat.le_refl _) (by show B + 4 ≤ w.heap.size; omega) _).setNew (p := ⟨w.heap.size, 1, none⟩) (Nat.le_refl _) (by show B + 4 ≤ w.heap.size; omega) _).setNew (p := ⟨w.heap.size, 2, none⟩) (Nat.le_refl _) (by show B + 4 ≤ w.heap.size; omega) _).alloc (by rw [setCell_size, setCell_size, setCell_size, setCell_size]; omega) _

set_option maxRecDepth 100000 in
theorem readVars (B : Nat) (t : ByteArray) (g : Bool) (n : Nat) (w w0 : World) (h : Rd w B t n g) (ht : t.size ≤ 1000000000) (hn : n ≤ 100000000000) (hT : Tabs w0) (hB : w0.heap.size ≤ B) (hb : Below w0.heap.size w0 w) :
    Calls Tryz.prog 68 #[ptrTo (B + 4)] w fun e w' => ∃ w1, Rd w1 B t (nx 59 t.data.toList n) g ∧ Two B w w1 ∧ RowEnd (pieces 32 (mkS (pc 59 t.data.toList n))) w1 e w' := by
  have h6 := h.piece
  go_enter Tryz.func68, Tryz.ntmps68
  go_wp2_with fail
  refine (readPiece B t n g 59 _ h ht hn (hT.keeps hb).sw).mono ?_
  rintro e w1 ⟨rfl, hr1, htw1⟩
  have hp := pc_length 59 t.data.toList n
  rw [show t.data.toList.length = t.size by simp] at hp
  have hT1 := hT.keeps (htw1.base hb hB)
  go_wp2_with fail
  refine (libSplit ⟨(pc 59 t.data.toList n).toArray⟩ 32 _ (by rw [mk_size]; omega) (by rw [mk_size]; omega) hT1.sw).mono ?_
  rintro e w2 ⟨a, cap, rfl, hrow⟩
  go_wp2
  go_ret
  exact ⟨w1, hr1, htw1, a, cap, rfl, hrow⟩

set_option maxRecDepth 100000 in
theorem readPoints (B : Nat) (t : ByteArray) (g : Bool) (n : Nat) (w w0 : World) (h : Rd w B t n g) (ht : t.size ≤ 1000000000) (hn : n ≤ 100000000000) (hT : Tabs w0) (hB : w0.heap.size ≤ B) (hb : Below w0.heap.size w0 w) :
    Calls Tryz.prog 70 #[ptrTo (B + 5)] w (Went B t (.int .i64 (numV (pc 59 t.data.toList n))) (nx 59 t.data.toList n) (g && num 0 999999 (pc 59 t.data.toList n)) w) := by
  have h6 := h.number
  go_enter Tryz.func70, Tryz.ntmps70
  go_wp2_with fail
  refine (readNumber B t n g 59 _ w0 h ht hn hT hB hb).mono ?_
  rintro e w1 ⟨rfl, hr1, htw1⟩
  go_wp2
  go_ret
  exact ⟨rfl, hr1, htw1⟩

set_option maxRecDepth 100000 in
theorem readMore (B : Nat) (t : ByteArray) (g : Bool) (n : Nat) (w : World) (h : Rd w B t n g) :
    Calls Tryz.prog 72 #[ptrTo (B + 3), ptrTo (B + 2), ptrTo B] w fun e w' => e = .returned (.bool (g && decide (n ≤ t.size))) ∧ w' = w := by
  have h1 := h.text
  have h2 := h.place
  have h4 := h.good
  cases g
  all_goals
    go_enter Tryz.func72, Tryz.ntmps72
    go_wp2
    go_ret
    simp

set_option maxRecDepth 100000 in
theorem readGood (B : Nat) (t : ByteArray) (g : Bool) (n : Nat) (w : World) (h : Rd w B t n g) :
    Calls Tryz.prog 73 #[ptrTo (B + 3)] w fun e w' => e = .returned (.bool g) ∧ w' = w := by
  have h4 := h.good
  go_enter Tryz.func73, Tryz.ntmps73
  go_wp2
  go_ret
  exact ⟨rfl, rfl⟩

set_option maxHeartbeats 1000000 in
set_option maxRecDepth 100000 in
theorem readEdge (B : Nat) (t : ByteArray) (g : Bool) (n : Nat) (w w0 : World) (h : Rd w B t n g) (ht : t.size ≤ 1000000000) (hn : n ≤ 10000000000) (hT : Tabs w0) (hB : w0.heap.size ≤ B) (hb : Below w0.heap.size w0 w) :
    Calls Tryz.prog 71 #[ptrTo (B + 5), ptrTo (B + 6)] w (Went B t (edV (edAt t.data.toList n).f (edAt t.data.toList n).t (edAt t.data.toList n).k (edAt t.data.toList n).a (edAt t.data.toList n).b) (edNext t.data.toList n) (g && edGood t.data.toList n) w) := by
  have hz := h.size
  have hlen : t.data.toList.length = t.size := by simp
  have hl1 := pc_length 32 t.data.toList n
  have hl2 := pc_length 32 t.data.toList (nx 32 t.data.toList n)
  have hn1 : nx 32 t.data.toList n ≤ 20000000000 := by unfold nx; omega
  have hn2 : nx 32 t.data.toList (nx 32 t.data.toList n) ≤ 30000000000 := by rw [nx]; omega
  have h6 := h.number
  have hz1 : B + 5 < w.heap.size := by omega
  have hz2 : ¬ B + 5 = w.heap.size := by omega
  simp only [edAt, edNext, edGood, ← Bool.and_assoc]
  go_enter Tryz.func71, Tryz.ntmps71
  go_wp2_with fail
  obtain ⟨W0, hW0, hb0, hs0, hA0⟩ := edge_box w ⟨0, 0, 0, ⟨#[]⟩, ⟨#[]⟩⟩ 44
  have hf0 : ∀ o, W0.frozen? ⟨w.heap.size, o, none⟩ = false := fun o => by rw [← hW0]; simp [go_sem]
  rw [hW0]
  clear hW0
  have hr0 := h.below hb0
  have hbb0 : Below w0.heap.size w0 W0 := hb.trans (hb0.mono (by omega))
  refine (readNumber B t n g 32 _ w0 hr0 ht (by omega) hT hB hbb0).mono ?_
  rintro e w1 ⟨rfl, hr1, htw1⟩
  have hbb1 := htw1.base hbb0 hB
  have h7 := hr1.number
  go_wp2_with fail
  refine (readNumber B t _ _ 32 _ w0 hr1 ht (by omega) hT hB hbb1).mono ?_
  rintro e w2 ⟨rfl, hr2, htw2⟩
  have hbb2 := htw2.base hbb1 hB
  have h8 := hr2.stmt
  go_wp2_with fail
  refine (readStmt B t _ _ _ w0 hr2 ht (by omega) hT hB hbb2).mono ?_
  rintro e w3 ⟨rfl, hr3, htw3⟩
  have hTw0 := (htw1.trans htw2).trans htw3
  have hTw := (Two.of hb0 (by omega)).trans hTw0
  have hs3 : w.heap.size < w3.heap.size := Nat.lt_of_lt_of_le hs0 hTw0.below.size
  have hN : ∀ o, w3.cell? ⟨w.heap.size, o, none⟩ = W0.cell? ⟨w.heap.size, o, none⟩ := fun o => hTw0.cell (p := ⟨w.heap.size, o, none⟩) (.inr (by show B + 4 ≤ w.heap.size; omega)) hs0
  have hNf : ∀ o, w3.frozen? ⟨w.heap.size, o, none⟩ = false := fun o => (hTw0.frozen (p := ⟨w.heap.size, o, none⟩) (.inr (by show B + 4 ≤ w.heap.size; omega)) hs0).trans (hf0 o)
  obtain ⟨a0, a1, a2, a3, a4⟩ := hA0
  have c0 := (hN 0).trans a0
  have c1 := (hN 1).trans a1
  have c2 := (hN 2).trans a2
  have c3 := (hN 3).trans a3
  have c4 := (hN 4).trans a4
  clear hN a0 a1 a2 a3 a4 hf0
  generalize nx 59 t.data.toList (nx 32 t.data.toList (nx 32 t.data.toList n)) = m at *
  generalize pc 59 t.data.toList (nx 32 t.data.toList (nx 32 t.data.toList n)) = q3 at *
  generalize numV (pc 32 t.data.toList (nx 32 t.data.toList n)) = v2 at *
  generalize numV (pc 32 t.data.toList n) = v1 at *
  generalize kOf q3 = k at *
  generalize aOf q3 = a at *
  generalize bOf q3 = b at *
  go_wp2
  refine bodyPost_ret (v := edV v1 v2 k a b) (by simp [results, Tryz.results71, go_sem, c0, c1, c2, c3, c4, hs3]) rfl ⟨rfl, ?_, ?_⟩
  · exact ((((hr3.setOther (p := ⟨w.heap.size, 0, none⟩) hz _).setOther (p := ⟨w.heap.size, 1, none⟩) hz _).setOther (p := ⟨w.heap.size, 2, none⟩) hz _).setOther (p := ⟨w.heap.size, 3, none⟩) hz _).setOther (p := ⟨w.heap.size, 4, none⟩) hz _
  · have hz4 : B + 4 ≤ w.heap.size := by omega
    exact ((((hTw.setNew (p := ⟨w.heap.size, 0, none⟩) (Nat.le_refl _) hz4 _).setNew (p := ⟨w.heap.size, 1, none⟩) (Nat.le_refl _) hz4 _).setNew (p := ⟨w.heap.size, 2, none⟩) (Nat.le_refl _) hz4 _).setNew (p := ⟨w.heap.size, 3, none⟩) (Nat.le_refl _) hz4 _).setNew (p := ⟨w.heap.size, 4, none⟩) (Nat.le_refl _) hz4 _

/-- What the reader is: five closures. -/
def readV (B : Nat) : Value := .agg #[.func (.func 68) #[] #[ptrTo (B + 4)], .func (.func 70) #[] #[ptrTo (B + 5)], .func (.func 71) #[] #[ptrTo (B + 5), ptrTo (B + 6)], .func (.func 72) #[] #[ptrTo (B + 3), ptrTo (B + 2), ptrTo B], .func (.func 73) #[] #[ptrTo (B + 3)]]

set_option maxHeartbeats 1000000 in
set_option maxRecDepth 100000 in
theorem readerOf (t : ByteArray) (w : World) :
    Calls Tryz.prog 29 #[.string t] w fun e w' => e = .returned (readV w.heap.size) ∧ Rd w' w.heap.size t 0 true ∧ Below w.heap.size w w' := by
  have hmf : ∀ (fn : Fn) (first cap : Array Value) (w : World), (Instr.makeFunc fn first cap).run Tryz.prog w = .ok (.func fn first cap) w := fun _ _ _ _ => rfl
  go_enter Tryz.func29, Tryz.ntmps29
  go_wp2
  refine bodyPost_ret (v := readV w.heap.size) (by simp [results, Tryz.results29, go_sem, readV]) rfl ⟨rfl, ⟨by simp, ?_, ?_, ?_, ?_, ?_, ?_, ?_, ?_⟩, ?_⟩
  all_goals first | (simp [go_sem]; done) | skip
  exact (((((((Below.refl w.heap.size w).alloc (by simp) _).alloc (by simp) _).alloc (by simp; omega) _).alloc (by simp; omega) _).alloc (by simp; omega) _).alloc (by simp; omega) _).alloc (by simp; omega) _
end Go.Proofs.YtabedmjaodinbaaGreatDoor
