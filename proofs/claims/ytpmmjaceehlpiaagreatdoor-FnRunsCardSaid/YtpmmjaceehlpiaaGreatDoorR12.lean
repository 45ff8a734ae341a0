/-
  The model's lists of numbers from -1 on, in lexicographic order.
-/
import Derived.Maps.AppendAt
import Derived.Test.YtpmmjaceehlpiaaGreatDoorR10
import Derived.Test.YtpmmjaceehlpiaaGreatDoorR07
namespace Go.Proofs.YtpmmjaceehlpiaaGreatDoor
open Go Go.RowKit Go.ChangeShapes Go.WideShapes Go.ChangeAt

/-- A list of numbers, and where it lies. -/
structure Lp where
  g : Nat
  c : Nat
  xs : List Int
def lpCells (x : Lp) : List Value := [.slice (some ⟨x.g, 0, none⟩) x.xs.length x.c]
theorem lpCells_length (x : Lp) : (lpCells x).length = 1 := rfl
abbrev lpVals (ls : List Lp) : List Value := fl lpCells ls
/-- It may be read, and lies from lo on. -/
structure Lp.At (lo : Nat) (W : World) (x : Lp) : Prop where
  row : Row W W.heap.size (some ⟨x.g, 0, none⟩) (intVals x.xs)
  lo : lo ≤ x.g
  lt : x.g < W.heap.size
theorem Lp.At.keep {lo : Nat} {W W' : World} {x : Lp} (h : x.At lo W) (hz : W.heap.size ≤ W'.heap.size) (hb : W'.heap[x.g]? = W.heap[x.g]?) : x.At lo W' := by
  refine ⟨fun k u hu => ?_, h.lo, Nat.lt_of_lt_of_le h.lt hz⟩
  obtain ⟨b, o, e, hl, hc⟩ := h.row k u hu
  injection e with e
  injection e with e1 e2 _
  subst e1 e2
  exact ⟨_, _, rfl, Nat.lt_of_lt_of_le hl hz, (World.cell?_of_block hb).trans hc⟩
theorem Lp.At.below {lo : Nat} {W W' : World} {x : Lp} (h : x.At lo W) (hb : Below W.heap.size W W') : x.At lo W' := h.keep hb.size (hb.block _ h.lt)
theorem Lp.At.mono {lo lo' : Nat} {W : World} {x : Lp} (h : x.At lo W) (hl : lo' ≤ lo) : x.At lo' W := ⟨h.row, Nat.le_trans hl h.lo, h.lt⟩
/-- A row of lists that may be read. -/
structure ListsAt (lo : Nat) (W : World) (g : Nat) (ls : List Lp) : Prop where
  row : Row W W.heap.size (some ⟨g, 0, none⟩) (lpVals ls)
  each : ∀ x ∈ ls, x.At lo W
  lo : lo ≤ g
  lt : g < W.heap.size
theorem ListsAt.keep {lo : Nat} {W W' : World} {g : Nat} {ls : List Lp} (h : ListsAt lo W g ls) (hz : W.heap.size ≤ W'.heap.size) (hb : ∀ k, lo ≤ k → k < W.heap.size → W'.heap[k]? = W.heap[k]?) : ListsAt lo W' g ls := by
  refine ⟨fun k u hu => ?_, fun x hx => (h.each x hx).keep hz (hb _ (h.each x hx).lo (h.each x hx).lt), h.lo, Nat.lt_of_lt_of_le h.lt hz⟩
  obtain ⟨b, o, e, hl, hc⟩ := h.row k u hu
  injection e with e
  injection e with e1 e2 _
  subst e1 e2
  exact ⟨_, _, rfl, Nat.lt_of_lt_of_le hl hz, (World.cell?_of_block (hb _ h.lo h.lt)).trans hc⟩
theorem ListsAt.item {lo : Nat} {W : World} {g : Nat} {ls : List Lp} (h : ListsAt lo W g ls) (k : Nat) (hk : k < ls.length) : W.cell? ⟨g, k, none⟩ = some (.slice (some ⟨ls[k].g, 0, none⟩) ls[k].xs.length ls[k].c) ∧ ls[k].At lo W := by
  obtain ⟨b, o, e, _, hc⟩ := Row.item lpCells_length (by omega) h.row k hk
  injection e with e
  injection e with e1 e2 _
  subst e1 e2
  have := hc 0 _ rfl
  simp only [Nat.zero_add, Nat.mul_one, Nat.add_zero] at this
  exact ⟨this, h.each _ (List.getElem_mem hk)⟩

/-- The lists: i first numbers done, and of the next one k lists. -/
def rowsS (less : List (List Int)) (i : Nat) : List (List Int) := (List.range i).flatMap fun (j : Nat) => less.map fun l => ((j : Int) - 1) :: l
theorem rowsS_next (less : List (List Int)) (i : Nat) : rowsS less (i + 1) = rowsS less i ++ less.map (fun l => ((i : Int) - 1) :: l) := by simp [rowsS, List.range_succ]
theorem rowsS_length (less : List (List Int)) (i : Nat) : (rowsS less i).length = i * less.length := by
  induction i with
  | zero => simp [rowsS]
  | succ i ih => rw [rowsS_next, List.length_append, ih, List.length_map, Nat.add_mul, Nat.one_mul]
def listsS (m : Nat) : Nat → List (List Int)
  | 0 => [[]]
  | n + 1 => rowsS (listsS m n) m
theorem listsS_length (m : Nat) : ∀ n, (listsS m n).length = m ^ n
  | 0 => rfl
  | n + 1 => by
    show (rowsS (listsS m n) m).length = _
    rw [rowsS_length, listsS_length m n, Nat.pow_succ, Nat.mul_comm]
theorem listsS_le {m n : Nat} (hm : m ≤ 4) (hn : n ≤ 4) : (listsS m n).length ≤ 256 := by
  rw [listsS_length]
  exact Nat.le_trans (Nat.pow_le_pow_left hm n) (Nat.le_trans (Nat.pow_le_pow_right (by omega) hn) (by decide))
theorem listsS_each {m : Nat} : ∀ {n : Nat} {l : List Int}, l ∈ listsS m n → l.length = n
  | 0, l, h => by simp [listsS] at h; simp [h]
  | n + 1, l, h => by
    obtain ⟨j, _, h⟩ := List.mem_flatMap.1 h
    obtain ⟨l', h', rfl⟩ := List.mem_map.1 h
    simp [listsS_each h']

def GaveLists (bs : List (List Int)) (w : World) (e : Ending) (w' : World) : Prop :=
  ∃ (g cap : Nat) (ls : List Lp), ls.map Lp.xs = bs ∧ e = .returned (.slice (some ⟨g, 0, none⟩) ls.length cap) ∧ ListsAt w.heap.size w' g ls ∧ Below w.heap.size w w'
theorem listInfo : (Tryz.prog.info? 28).map (fun i => (i.zero, i.size, i.bytes)) = some (some (.slice none 0 0), 1, 24) := by kernel_rfl
theorem numInfo9 : (Tryz.prog.info? 3).map (fun i => (i.zero, i.size, i.bytes)) = some (some (.int .i64 0), 1, 8) := by kernel_rfl
theorem own_lit {w : World} {base : Nat} {e : TypeId} (x : Value) (hb : base ≤ w.heap.size) : (w.alloc (.cells #[x] e)).ownsRow base e 1 (.slice (some ⟨w.heap.size, 0, none⟩) 1 1) 1 [x] :=
  ⟨by simp, .inr ⟨w.heap.size, 1, #[x], rfl, hb, heap_alloc_new w _, Nat.le_refl _, by decide, rfl, by simp⟩⟩
theorem lit_news (w : World) (x : Value) (t : TypeId) : ∀ j u, [x][j]? = some u → (w.alloc (.cells #[x] t)).cell? ((⟨w.heap.size, 0, none⟩ : Addr).add j) = some u := by
  intro j u hj
  match j, hj with
  | 0, hj =>
    simp at hj
    subst hj
    simp [Addr.add]
  | j + 1, hj => simp at hj
theorem own_row {W : World} {base e n c g : Nat} {xs : List Value} (h : W.ownsRow base e 1 (.slice (some ⟨g, 0, none⟩) n c) n xs) : Row W W.heap.size (some ⟨g, 0, none⟩) xs := fun k u hu =>
  ⟨g, 0, rfl, (h.lt g rfl).2, by have := h.cells (g := g) rfl k u hu; rwa [add_plain] at this⟩
theorem own_some {W : World} {base e size n g : Nat} {v : Value} {xs : List Value} (h : W.ownsRow base e size v n xs) (hg : v.ownBlock = some g) : ∃ c, v = .slice (some ⟨g, 0, none⟩) n c := by
  rcases h.2 with ⟨rfl, _⟩ | ⟨k, cap, cur, rfl, _⟩
  · cases hg
  · exact ⟨cap, by cases hg; rfl⟩
theorem loc_some {W : World} {base e size n B S : Nat} {v : Value} {xs : List Value} (h : W.ownsRow base e size v n xs) (hl : v.ownBlock = some B ∨ v.ownBlock = some S) : ∃ G c, v = .slice (some ⟨G, 0, none⟩) n c ∧ (G = B ∨ G = S) := by
  rcases hl with hl | hl
  · obtain ⟨c, rfl⟩ := own_some h hl
    exact ⟨B, c, rfl, .inl rfl⟩
  · obtain ⟨c, rfl⟩ := own_some h hl
    exact ⟨S, c, rfl, .inr rfl⟩
theorem lit_one (a : Option Addr) (n c : Nat) : ∀ u ∈ [Value.slice a n c], u.oneCell' = true := by
  intro u hu
  rw [List.mem_singleton.1 hu]
  rfl
theorem intVals_ones (l : List Int) : ∀ u ∈ intVals l, u.oneCell' = true := by
  intro u hu
  obtain ⟨x, _, rfl⟩ := List.mem_map.1 hu
  rfl
/-- What has been collected: w: the world at the start, w1: that in which the shorter lists lie. -/
def Out (w w1 : World) (bs : List (List Int)) (v : Value) (wr : World) : Prop :=
  ∃ os : List Lp, os.map Lp.xs = bs ∧ wr.ownsRow w.heap.size 28 1 v os.length (lpVals os) ∧ (∀ x ∈ os, x.At w1.heap.size wr ∧ v.ownBlock ≠ some x.g) ∧ (∃ k, v.ownBlock = some k ∧ (k = w.heap.size ∨ w1.heap.size ≤ k)) ∧ Only (fun k => k = w.heap.size) w1 wr
theorem out_start {w w1 wr : World} {bs : List (List Int)} {v : Value} (less : List (List Int)) (f : List Int → List Int) (h : Out w w1 bs v wr) : Out w w1 (bs ++ (less.take 0).map f) v wr := by simpa using h
theorem out_full {w w1 wr : World} {bs less : List (List Int)} {v : Value} {j i : Nat} (hj : j = less.length) (hb : bs = rowsS less i) (h : Out w w1 (bs ++ (less.take j).map (fun l => ((i : Int) - 1) :: l)) v wr) : Out w w1 (rowsS less (i + 1)) v wr := by
  rw [rowsS_next, ← hb]
  rw [hj, List.take_length] at h
  exact h
/-- One list more. -/
theorem out_next {w w1 wr w' : World} {bs less : List (List Int)} {v v' : Value} {j : Nat} {f : List Int → List Int} {G c : Nat} {os : List Lp} {kb : Nat} (hj : j < less.length) (hos' : os.map Lp.xs = bs ++ (less.take j).map f) (ho : wr.ownsRow w.heap.size 28 1 v os.length (lpVals os)) (hx : ∀ x ∈ os, x.At w1.heap.size wr ∧ v.ownBlock ≠ some x.g) (hk : v.ownBlock = some kb) (hk2 : kb = w.heap.size ∨ w1.heap.size ≤ kb) (hon : Only (fun k => k = w.heap.size) w1 wr) (hz : wr.heap.size ≤ w'.heap.size)
    (hb : ∀ k, k < wr.heap.size → v.ownBlock ≠ some k → w'.heap[k]? = wr.heap[k]?) (hos : w'.os = wr.os) (htp : w'.tape = wr.tape) (hout : w'.output = wr.output) (hG : wr.heap.size ≤ G) (hGn : v'.ownBlock ≠ some G) (hrow : Row w' w'.heap.size (some ⟨G, 0, none⟩) (intVals (f less[j]))) (hGl : G < w'.heap.size)
    (hv : v'.ownBlock = v.ownBlock ∨ ∃ k, v'.ownBlock = some k ∧ wr.heap.size ≤ k) (_hw1 : w.heap.size < w1.heap.size)
    (hown : w'.ownsRow w.heap.size 28 1 v' (os.length + 1) (lpVals os ++ [.slice (some ⟨G, 0, none⟩) (f less[j]).length c])) :
    Out w w1 (bs ++ (less.take (j + 1)).map f) v' w' := by
  refine ⟨os ++ [⟨G, c, f less[j]⟩], ?_, ?_, ?_, ?_, ⟨hos.trans hon.os, htp.trans hon.tape, hout.trans hon.output, Nat.le_trans hon.size hz, fun q hq hqn => (hb q (Nat.lt_of_lt_of_le hq hon.size) ?_).trans (hon.block q hq hqn)⟩⟩
  · rw [List.map_append, hos', take_next less j hj, List.map_append, List.append_assoc]
    rfl
  · rw [List.length_append]
    show w'.ownsRow _ _ 1 v' (os.length + 1) _
    rw [show lpVals (os ++ [⟨G, c, f less[j]⟩]) = lpVals os ++ lpVals [⟨G, c, f less[j]⟩] from fl_append os _]
    exact hown
  · intro x hx'
    have hlt := (ho.lt kb hk).2
    rcases List.mem_append.1 hx' with hx' | hx'
    · obtain ⟨hat, hne⟩ := hx x hx'
      refine ⟨hat.keep hz (hb _ hat.lt hne), ?_⟩
      rcases hv with hv | ⟨q, hv, hq⟩
      · rw [hv]
        exact hne
      · rw [hv]
        intro e
        have := Option.some.inj e
        have := hat.lt
        omega
    · rw [List.mem_singleton.1 hx']
      exact ⟨⟨hrow, Nat.le_trans hon.size hG, hGl⟩, hGn⟩
  · rcases hv with hv | ⟨q, hv, hq⟩
    · exact ⟨kb, hv.trans hk, hk2⟩
    · exact ⟨q, hv, .inr (Nat.le_trans hon.size hq)⟩
  · rw [hk]
    intro e
    have := Option.some.inj e
    omega
set_option maxRecDepth 100000 in
set_option maxHeartbeats 1600000 in
theorem specLists_zero (m : Nat) (t : Int) (w : World) : Calls Tryz.prog 69 #[.int .i64 0, .int .i64 t] w (GaveLists (listsS m 0) w) := by
  have hB1 := (Below.refl w.heap.size w).alloc (Nat.le_refl _) (.cells #[] 3)
  have hB2 := (Below.refl (w.alloc (.cells #[] 3)).heap.size (w.alloc (.cells #[] 3))).alloc (Nat.le_refl _) (.cells #[.slice (some ⟨w.heap.size, 0, none⟩) 0 0] 28)
  have hs1 : (w.alloc (.cells #[] 3)).heap.size = w.heap.size + 1 := by simp
  have hrow := own_row (own_lit (w := w.alloc (.cells #[] 3)) (base := 0) (e := 28) (.slice (some ⟨w.heap.size, 0, none⟩) 0 0) (Nat.zero_le _))
  rw [hs1] at hrow
  have HF := Lib.hid (show GaveLists (listsS m 0) w (.returned (.slice (some ⟨w.heap.size + 1, 0, none⟩) 1 1)) ((w.alloc (.cells #[] 3)).alloc (.cells #[.slice (some ⟨w.heap.size, 0, none⟩) 0 0] 28)) from
    ⟨w.heap.size + 1, 1, [⟨w.heap.size, 0, []⟩], rfl, rfl, ⟨hrow, fun x hx => by
      rw [List.mem_singleton.1 hx]
      exact ⟨fun k u hu => by simp [intVals] at hu, Nat.le_refl _, by simp; omega⟩, Nat.le_succ _, by simp⟩, hB1.trans (hB2.mono (by simp))⟩)
  clear hB1 hB2 hs1 hrow
  go_enter Tryz.func69, Tryz.ntmps69
  go_wp2
  go_ret
  exact HF.out
set_option maxRecDepth 100000 in
set_option maxHeartbeats 1600000 in
theorem specLists_succ (m : Nat) (hm : m ≤ 4) (t : Int) (ht : t = (m : Int) - 2) (n : Nat) (hn : n + 1 ≤ 4) (ih : ∀ w : World, Calls Tryz.prog 69 #[.int .i64 (n : Int), .int .i64 t] w (GaveLists (listsS m n) w)) (w : World) :
    Calls Tryz.prog 69 #[.int .i64 ((n : Int) + 1), .int .i64 t] w (GaveLists (listsS m (n + 1)) w) := by
  obtain ⟨i0, hi9, hz0, hz1, hz2⟩ := info_parts listInfo
  obtain ⟨j0, hj9, hy0, hy1, hy2⟩ := info_parts numInfo9
  have hls := listsS_le (m := m) (n := n) hm (by omega)
  have hle2 := listsS_le (m := m) (n := n + 1) hm hn
  have hsl : ∀ l ∈ listsS m n, l.length ≤ 4 := fun l hl => by rw [listsS_each hl]; omega
  have hne : ((n : Int) + 1 == 0) = false := by
    simp only [beq_eq_false_iff_ne, ne_eq]
    omega
  have hdef : listsS m (n + 1) = rowsS (listsS m n) m := rfl
  have HT := Lib.hid ht
  clear ht
  generalize listsS m n = less at *
  generalize hbig : listsS m (n + 1) = big at *
  clear hbig
  go_enter Tryz.func69, Tryz.ntmps69
  go_wp2_with fail
  have ho0 := World.ownsRow_made (e := 28) (size := 1) (base := w.heap.size) w #[] 0 (Nat.le_refl _) (Nat.zero_le _) rfl
  have hb0 := (Below.refl w.heap.size w).alloc (Nat.le_refl _) (.cells #[] 28)
  refine (ih _).mono ?_
  rintro e w1 ⟨g, cap, ls, hbs, rfl, hat, hb1⟩
  have ho1 := own_keeps ho0 hb1
  have hB1 := hb0.trans (hb1.mono hb0.size)
  have hlt1 : w.heap.size < w1.heap.size := by have := hb1.size; simp at this; omega
  have hat' : ListsAt (w.heap.size + 1) w1 g ls := by simpa using hat
  have hll : ls.length = less.length := by rw [← hbs]; simp
  have hO : Out w w1 (rowsS less 0) (.slice (some ⟨w.heap.size, 0, none⟩) 0 0) w1 := ⟨[], rfl, ho1, fun x hx => by simp at hx, ⟨_, rfl, .inl rfl⟩, Only.refl⟩
  have HAT := Lib.hid hat'
  have HBS := Lib.hid hbs
  have HB1 := Lib.hid hB1
  have HDEF := Lib.hid hdef
  clear ho0 hb0 hb1 ho1 hB1 hat hat' hbs hdef ih
  go_wp2
  go_loopw [5, 7] (fun v a wr => ∃ i : Nat, i ≤ m ∧ a = .int .i64 ((i : Int) - 1) ∧ Out w w1 (rowsS less i) v wr) (fun _ a _ => (m + 1 - (intOf a + 1).toNat))
  case atStart => exact ⟨0, Nat.zero_le _, rfl, hO⟩
  case round =>
    obtain ⟨i, him, rfl, hO⟩ := hrel
    by_cases hlt : i < m
    · have hle : ((i : Int) - 1 ≤ t) := by have := HT.out; omega
      have hO0 := out_start less (fun l => ((i : Int) - 1) :: l) hO
      clear hO
      go_wp2
      go_loopw [5, 8] (fun v k wq => ∃ j : Nat, j ≤ less.length ∧ k = .int .i64 j ∧ Out w w1 (rowsS less i ++ (less.take j).map (fun l => ((i : Int) - 1) :: l)) v wq) (fun _ k _ => (less.length - (intOf k).toNat))
      case atStart => exact ⟨0, Nat.zero_le _, rfl, hO0⟩
      case round =>
        obtain ⟨j, hj, rfl, hO⟩ := hrel
        by_cases hlj : j < less.length
        · have hlj' : j < ls.length := by omega
          obtain ⟨os, hos', ho, hx, ⟨kb, hkb, hkb2⟩, hon⟩ := hO
          have hat : ListsAt (w.heap.size + 1) wr g ls := HAT.out.keep hon.size (fun k h1 h2 => hon.block k h2 (by omega))
          obtain ⟨c0, hL⟩ := hat.item j hlj'
          have hxs : ls[j].xs = less[j] := by
            have h1 : (ls.map Lp.xs)[j]? = less[j]? := by rw [HBS.out]
            simpa [hlj', hlj] using h1
          have hl4 : less[j].length ≤ 4 := hsl _ (List.getElem_mem hlj)
          obtain ⟨cv, rfl⟩ := own_some ho hkb
          have hkl : kb < wr.heap.size := (ho.lt kb hkb).2
          have hgl : g < wr.heap.size := hat.lt
          have hgn : ¬ g = wr.heap.size := by omega
          have hosl : os.length + 1 ≤ 256 := by
            have h1 := congrArg List.length hos'
            simp only [List.length_append, List.length_map, List.length_take, rowsS_length] at h1
            have h2 : (rowsS less m).length ≤ 256 := by rw [← HDEF.out]; exact hle2
            rw [rowsS_length] at h2
            have h3 : i * less.length + less.length ≤ m * less.length := by rw [← Nat.succ_mul]; exact Nat.mul_le_mul_right _ hlt
            omega
          generalize ls[j] = y at *
          rw [← hxs] at hl4
          have hlit := own_lit (w := wr) (base := wr.heap.size) (e := 3) (.int .i64 ((i : Int) - 1)) (Nat.le_refl _)
          have hnews : ∀ p u, (intVals y.xs)[p]? = some u → (wr.alloc (.cells #[.int .i64 ((i : Int) - 1)] 3)).cell? ((⟨y.g, 0, none⟩ : Addr).add p) = some u := by
            intro p u hu
            obtain ⟨b, o, e, _, hc⟩ := (hL.below ((Below.refl _ _).alloc (Nat.le_refl _) (.cells #[.int .i64 ((i : Int) - 1)] 3))).row p u hu
            injection e with e
            injection e with e1 e2 _
            subst e1 e2
            rw [add_plain]
            exact hc
          have Hxs := Lib.hid hxs
          have Hos := Lib.hid hos'
          have Ho := Lib.hid ho
          have Hx := Lib.hid hx
          have Hon := Lib.hid hon
          have Hkb := Lib.hid hkb
          have HL := Lib.hid hL
          clear hxs hos' ho hx hon hkb hL hat hO0
          go_wp2_with (first
            | (at_builtin; refine wpList_append_own_at _ rfl (.tmp 31) (.tmp 35) 28 rfl wr.heap.size 3 j0 (.int .i64 0) 1 8 Tryz.underlying28 hj9 hy0 hy1 hy2 rfl (by decide) (.slice (some ⟨wr.heap.size, 0, none⟩) 1 1) 1 [.int .i64 ((i : Int) - 1)] rfl hlit ⟨y.g, 0, none⟩ y.xs.length y.c (intVals y.xs) rfl (by simp [intVals]) hnews (intVals_ones _) (by unfold maxLen; omega) (by omega) (by simp) ?_; intro v5 w5 hown5 hg5 _ hloc; obtain ⟨G, c5, rfl, hG⟩ := loc_some hown5 hloc; have HG := Lib.hid hG; have HO5 := Lib.hid hown5; have HG5 := Lib.hid hg5; have HO := Lib.hid (own_other (Ho.out.alloc (.cells #[.int .i64 ((i : Int) - 1)] 3)) hg5 (fun k hk e => by rw [Hkb.out] at hk; simp only [Value.ownBlock] at e; have h1 := Option.some.inj hk; have h2 := Option.some.inj e; omega)); clear hown5 hg5 hloc hG)
            | (at_builtin; refine wpList_append_own_at _ rfl (.tmp 29) (.tmp 37) 103 rfl w.heap.size 28 i0 (.slice none 0 0) 1 24 Tryz.underlying103 hi9 hz0 hz1 hz2 rfl (by decide) _ os.length (lpVals os) rfl (HO.out.alloc _) ⟨w5.heap.size, 0, none⟩ 1 1 [.slice (some ⟨G, 0, none⟩) (1 + y.xs.length) c5] rfl rfl ?_ ?_ ?_ ?_ ?_ ?_; (focus exact lit_news _ _ _); (focus exact lit_one _ _ _); (focus (unfold maxLen; omega)); (focus omega); (focus (have h5 := HG5.out.size; simp at h5 ⊢; omega)); intro v6 w6 hown6 hg6 _ hloc6; have HO6 := Lib.hid hown6; have HG6 := Lib.hid hg6; have HL6 := Lib.hid hloc6; clear hown6 hg6 hloc6)
            | fail)
          go_roundw
          case rel =>
            have hg6 : (w5.alloc (.cells #[.slice (some ⟨G, 0, none⟩) (1 + y.xs.length) c5] 28)).grownBy w6 (some kb) := HG6.out
            have hl6 : v6.ownBlock = some kb ∨ v6.ownBlock = some (w5.alloc (.cells #[.slice (some ⟨G, 0, none⟩) (1 + y.xs.length) c5] 28)).heap.size := HL6.out
            have hg5 : (wr.alloc (.cells #[.int .i64 ((i : Int) - 1)] 3)).grownBy w5 (some wr.heap.size) := HG5.out
            have hG : G = wr.heap.size ∨ G = (wr.alloc (.cells #[.int .i64 ((i : Int) - 1)] 3)).heap.size := HG.out
            have ha1 := (Below.refl wr.heap.size wr).alloc (Nat.le_refl _) (.cells #[.int .i64 ((i : Int) - 1)] 3)
            have ha2 := (Below.refl w5.heap.size w5).alloc (Nat.le_refl _) (.cells #[.slice (some ⟨G, 0, none⟩) (1 + y.xs.length) c5] 28)
            have z1 : (wr.alloc (.cells #[.int .i64 ((i : Int) - 1)] 3)).heap.size = wr.heap.size + 1 := by simp
            have z2 : (w5.alloc (.cells #[.slice (some ⟨G, 0, none⟩) (1 + y.xs.length) c5] 28)).heap.size = w5.heap.size + 1 := by simp
            have z5 := hg5.size
            have z6 := hg6.size
            rw [z1] at z5 hG
            rw [z2] at z6 hl6
            have hG5 := (HO5.out.lt G rfl).2
            have hGk : G ≠ kb := by omega
            have hrow := own_row HO5.out
            have hGb : w6.heap[G]? = w5.heap[G]? := (hg6.block G (by rw [z2]; omega) (fun e => hGk (Option.some.inj e))).trans (ha2.block G hG5)
            have hrow6 : Row w6 w6.heap.size (some ⟨G, 0, none⟩) (intVals (((i : Int) - 1) :: less[j])) := by
              intro q u hu
              rw [← Hxs.out] at hu
              obtain ⟨b, o, e, hl, hc⟩ := hrow q u hu
              injection e with e
              injection e with e1 e2 _
              subst e1 e2
              exact ⟨_, _, rfl, by omega, (World.cell?_of_block hGb).trans hc⟩
            refine ⟨j + 1, by omega, by go_num, out_next (f := fun l => ((i : Int) - 1) :: l) (c := c5) hlj Hos.out Ho.out Hx.out Hkb.out hkb2 Hon.out (by omega) (fun q hq hqn => ?_) (hg6.os.trans (ha2.os.trans (hg5.os.trans ha1.os))) (hg6.tape.trans (ha2.tape.trans (hg5.tape.trans ha1.tape))) (hg6.output.trans (ha2.output.trans (hg5.output.trans ha1.output))) (by omega) ?_ hrow6 (by omega) ?_ hlt1 ?_⟩
            · rw [Hkb.out] at hqn
              exact (hg6.block q (by rw [z2]; omega) (fun e => hqn e.symm)).trans ((ha2.block q (by omega)).trans ((hg5.block q (by rw [z1]; omega) (fun e => by have := Option.some.inj e; omega)).trans (ha1.block q hq)))
            · rcases hl6 with e | e
              · rw [e]; exact fun h => hGk (Option.some.inj h).symm
              · rw [e]; exact fun h => by have := Option.some.inj h; omega
            · rcases hl6 with e | e
              · exact .inl (e.trans Hkb.out.symm)
              · exact .inr ⟨_, e, by omega⟩
            · have h6 := HO6.out
              rw [show ((((i : Int) - 1) :: less[j]).length) = 1 + y.xs.length by rw [← Hxs.out]; simp; omega]
              exact h6
          case measure => simp [intOf]; omega
        · have hje : j = less.length := by omega
          have HN := Lib.hid (out_full hje rfl hO)
          clear hO hO0
          go_wp2
          go_roundw
          case rel => exact ⟨i + 1, by omega, by go_num, HN.out⟩
          case measure => simp [intOf]; omega
    · have hie : i = m := by omega
      have hgt : ¬ ((i : Int) - 1 ≤ t) := by have := HT.out; omega
      subst hie
      obtain ⟨os, hos, ho, hx, ⟨kb, hkb, _⟩, hon⟩ := hO
      obtain ⟨cv, rfl⟩ := own_some ho hkb
      have HE := Lib.hid (show GaveLists big w (.returned (.slice (some ⟨kb, 0, none⟩) os.length cv)) wr from
        ⟨kb, cv, os, by rw [hos, HDEF.out], rfl, ⟨own_row ho, fun x hx' => (hx x hx').1.mono (by omega), (ho.lt kb hkb).1, (ho.lt kb hkb).2⟩, hon.below HB1.out HB1.out.size (fun k hk => by omega)⟩)
      clear hos ho hx hkb hon
      go_wp2
      go_ret
      exact HE.out
theorem specLists (m : Nat) (hm : m ≤ 4) (t : Int) (ht : t = (m : Int) - 2) : ∀ (n : Nat), n ≤ 4 → ∀ (w : World), Calls Tryz.prog 69 #[.int .i64 (n : Int), .int .i64 t] w (GaveLists (listsS m n) w)
  | 0, _, w => specLists_zero m t w
  | n + 1, hn, w => by
    rw [show (((n + 1 : Nat) : Int)) = (n : Int) + 1 by omega]
    exact specLists_succ m hm t ht n hn (specLists m hm t ht n (by omega)) w
end Go.Proofs.YtpmmjaceehlpiaaGreatDoor
