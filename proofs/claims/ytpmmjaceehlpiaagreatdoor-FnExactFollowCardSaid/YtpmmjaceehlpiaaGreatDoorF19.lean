/-
  Several texts of one proof in one file, in the order in which they build.
-/
import Derived.Maps.AppendAt
import Derived.Deep.RegionLaw
import Derived.Test.YtpmmjaceehlpiaaGreatDoorF17
import Derived.Test.YtpmmjaceehlpiaaGreatDoorF05
import Derived.Test.YtpmmjaceehlpiaaGreatDoorF06
/-
  The model's lists of numbers from -1 on, in lexicographic order.
-/
namespace Go.Proofs.YtpmmjaceehlpiaaGreatDoor
open Go Go.RowKit Go.ChangeShapes Go.WideShapes Go.ChangeAt

/-- A list of numbers, and where it lies. -/
structure Lp where
  g : Nat
  c : Nat
  xs : List Int
def lpCells (x : Lp) : List Value := [.slice (some ⟨x.g, 0, none⟩) x.xs.length x.c]
theorem lpCells_length (x : Lp) : (lpCells x).length = 1 := rfl
abbrev lpVals (ls : List Lp) : List Value := fl lpCells ls
/-- It may be read, and lies from lo on. -/
structure Lp.At (lo : Nat) (W : World) (x : Lp) : Prop where
  row : Row W W.heap.size (some ⟨x.g, 0, none⟩) (intVals x.xs)
  lo : lo ≤ x.g
  lt : x.g < W.heap.size
theorem Lp.At.keep {lo : Nat} {W W' : World} {x : Lp} (h : x.At lo W) (hz : W.heap.size ≤ W'.heap.size) (hb : W'.heap[x.g]? = W.heap[x.g]?) : x.At lo W' := by
  refine ⟨fun k u hu => ?_, h.lo, Nat.lt_of_lt_of_le h.lt hz⟩
  obtain ⟨b, o, e, hl, hc⟩ := h.row k u hu
  injection e with e
  injection e with e1 e2 _
  subst e1 e2
  exact ⟨_, _, rfl, Nat.lt_of_lt_of_le hl hz, (World.cell?_of_block hb).trans hc⟩
theorem Lp.At.below {lo : Nat} {W W' : World} {x : Lp} (h : x.At lo W) (hb : Below W.heap.size W W') : x.At lo W' := h.keep hb.size (hb.block _ h.lt)
theorem Lp.At.mono {lo lo' : Nat} {W : World} {x : Lp} (h : x.At lo W) (hl : lo' ≤ lo) : x.At lo' W := ⟨h.row, Nat.le_trans hl h.lo, h.lt⟩
/-- A row of lists that may be read. -/
structure ListsAt (lo : Nat) (W : World) (g : Nat) (ls : List Lp) : Prop where
  row : Row W W.heap.size (some ⟨g, 0, none⟩) (lpVals ls)
  each : ∀ x ∈ ls, x.At lo W
  lo : lo ≤ g
  lt : g < W.heap.size
theorem ListsAt.keep {lo : Nat} {W W' : World} {g : Nat} {ls : List Lp} (h : ListsAt lo W g ls) (hz : W.heap.size ≤ W'.heap.size) (hb : ∀ k, lo ≤ k → k < W.heap.size → W'.heap[k]? = W.heap[k]?) : ListsAt lo W' g ls := by
  refine ⟨fun k u hu => ?_, fun x hx => (h.each x hx).keep hz (hb _ (h.each x hx).lo (h.each x hx).lt), h.lo, Nat.lt_of_lt_of_le h.lt hz⟩
  obtain ⟨b, o, e, hl, hc⟩ := h.row k u hu
  injection e with e
  injection e with e1 e2 _
  subst e1 e2
  exact ⟨_, _, rfl, Nat.lt_of_lt_of_le hl hz, (World.cell?_of_block (hb _ h.lo h.lt)).trans hc⟩
theorem ListsAt.item {lo : Nat} {W : World} {g : Nat} {ls : List Lp} (h : ListsAt lo W g ls) (k : Nat) (hk : k < ls.length) : W.cell? ⟨g, k, none⟩ = some (.slice (some ⟨ls[k].g, 0, none⟩) ls[k].xs.length ls[k].c) ∧ ls[k].At lo W := by
  obtain ⟨b, o, e, _, hc⟩ := Row.item lpCells_length (by omega) h.row k hk
  injection e with e
  injection e with e1 e2 _
  subst e1 e2
  have := hc 0 _ rfl
  simp only [Nat.zero_add, Nat.mul_one, Nat.add_zero] at this
  exact ⟨this, h.each _ (List.getElem_mem hk)⟩

/-- The lists: i first numbers done, and of the next one k lists. -/
def rowsS (less : List (List Int)) (i : Nat) : List (List Int) := (List.range i).flatMap fun (j : Nat) => less.map fun l => ((j : Int) - 1) :: l
theorem rowsS_next (less : List (List Int)) (i : Nat) : rowsS less (i + 1) = rowsS less i ++ less.map (fun l => ((i : Int) - 1) :: l) := by simp [rowsS, List.range_succ]
theorem rowsS_length (less : List (List Int)) (i : Nat) : (rowsS less i).length = i * less.length := by
  induction i with
  | zero => simp [rowsS]
  | succ i ih => rw [rowsS_next, List.length_append, ih, List.length_map, Nat.add_mul, Nat.one_mul]
def listsS (m : Nat) : Nat → List (List Int)
  | 0 => [[]]
  | n + 1 => rowsS (listsS m n) m
theorem listsS_length (m : Nat) : ∀ n, (listsS m n).length = m ^ n
  | 0 => rfl
  | n + 1 => by
    show (rowsS (listsS m n) m).length = _
    rw [rowsS_length, listsS_length m n, Nat.pow_succ, Nat.mul_comm]
theorem listsS_le {m n : Nat} (hm : m ≤ 4) (hn : n ≤ 4) : (listsS m n).length ≤ 256 := by
  rw [listsS_length]
  exact Nat.le_trans (Nat.pow_le_pow_left hm n) (Nat.le_trans (Nat.pow_le_pow_right (by omega) hn) (by decide))
theorem listsS_each {m : Nat} : ∀ {n : Nat} {l : List Int}, l ∈ listsS m n → l.length = n
  | 0, l, h => by simp [listsS] at h; simp [h]
  | n + 1, l, h => by
    obtain ⟨j, _, h⟩ := List.mem_flatMap.1 h
    obtain ⟨l', h', rfl⟩ := List.mem_map.1 h
    simp [listsS_each h']

def GaveLists (bs : List (List Int)) (w : World) (e : Ending) (w' : World) : Prop :=
  ∃ (g cap : Nat) (ls : List Lp), ls.map Lp.xs = bs ∧ e = .returned (.slice (some ⟨g, 0, none⟩) ls.length cap) ∧ ListsAt w.heap.size w' g ls ∧ Below w.heap.size w w'
theorem listInfo : (Tryz.prog.info? 28).map (fun i => (i.zero, i.size, i.bytes)) = some (some (.slice none 0 0), 1, 24) := by kernel_rfl
theorem numInfo9 : (Tryz.prog.info? 3).map (fun i => (i.zero, i.size, i.bytes)) = some (some (.int .i64 0), 1, 8) := by kernel_rfl
theorem own_lit {w : World} {base : Nat} {e : TypeId} (x : Value) (hb : base ≤ w.heap.size) : (w.alloc (.cells #[x] e)).ownsRow base e 1 (.slice (some ⟨w.heap.size, 0, none⟩) 1 1) 1 [x] :=
  ⟨by simp, .inr ⟨w.heap.size, 1, #[x], rfl, hb, heap_alloc_new w _, Nat.le_refl _, by decide, rfl, by simp⟩⟩
theorem lit_news (w : World) (x : Value) (t : TypeId) : ∀ j u, [x][j]? = some u → (w.alloc (.cells #[x] t)).cell? ((⟨w.heap.size, 0, none⟩ : Addr).add j) = some u := by
  intro j u hj
  match j, hj with
  | 0, hj =>
    simp at hj
    subst hj
    simp [Addr.add]
  | j + 1, hj => simp at hj
theorem own_row {W : World} {base e n c g : Nat} {xs : List Value} (h : W.ownsRow base e 1 (.slice (some ⟨g, 0, none⟩) n c) n xs) : Row W W.heap.size (some ⟨g, 0, none⟩) xs := fun k u hu =>
  ⟨g, 0, rfl, (h.lt g rfl).2, by have := h.cells (g := g) rfl k u hu; rwa [add_plain] at this⟩
theorem own_some {W : World} {base e size n g : Nat} {v : Value} {xs : List Value} (h : W.ownsRow base e size v n xs) (hg : v.ownBlock = some g) : ∃ c, v = .slice (some ⟨g, 0, none⟩) n c := by
  rcases h.2 with ⟨rfl, _⟩ | ⟨k, cap, cur, rfl, _⟩
  · cases hg
  · exact ⟨cap, by cases hg; rfl⟩
theorem loc_some {W : World} {base e size n B S : Nat} {v : Value} {xs : List Value} (h : W.ownsRow base e size v n xs) (hl : v.ownBlock = some B ∨ v.ownBlock = some S) : ∃ G c, v = .slice (some ⟨G, 0, none⟩) n c ∧ (G = B ∨ G = S) := by
  rcases hl with hl | hl
  · obtain ⟨c, rfl⟩ := own_some h hl
    exact ⟨B, c, rfl, .inl rfl⟩
  · obtain ⟨c, rfl⟩ := own_some h hl
    exact ⟨S, c, rfl, .inr rfl⟩
theorem lit_one (a : Option Addr) (n c : Nat) : ∀ u ∈ [Value.slice a n c], u.oneCell' = true := by
  intro u hu
  rw [List.mem_singleton.1 hu]
  rfl
theorem intVals_ones (l : List Int) : ∀ u ∈ intVals l, u.oneCell' = true := by
  intro u hu
  obtain ⟨x, _, rfl⟩ := List.mem_map.1 hu
  rfl
/-- What has been collected: w: the world at the start, w1: that in which the shorter lists lie. -/
def Out (w w1 : World) (bs : List (List Int)) (v : Value) (wr : World) : Prop :=
  ∃ os : List Lp, os.map Lp.xs = bs ∧ wr.ownsRow w.heap.size 28 1 v os.length (lpVals os) ∧ (∀ x ∈ os, x.At w1.heap.size wr ∧ v.ownBlock ≠ some x.g) ∧ (∃ k, v.ownBlock = some k ∧ (k = w.heap.size ∨ w1.heap.size ≤ k)) ∧ Only (fun k => k = w.heap.size) w1 wr
theorem out_start {w w1 wr : World} {bs : List (List Int)} {v : Value} (less : List (List Int)) (f : List Int → List Int) (h : Out w w1 bs v wr) : Out w w1 (bs ++ (less.take 0).map f) v wr := by simpa using h
theorem out_full {w w1 wr : World} {bs less : List (List Int)} {v : Value} {j i : Nat} (hj : j = less.length) (hb : bs = rowsS less i) (h : Out w w1 (bs ++ (less.take j).map (fun l => ((i : Int) - 1) :: l)) v wr) : Out w w1 (rowsS less (i + 1)) v wr := by
  rw [rowsS_next, ← hb]
  rw [hj, List.take_length] at h
  exact h
/-- One list more. -/
theorem out_next {w w1 wr w' : World} {bs less : List (List Int)} {v v' : Value} {j : Nat} {f : List Int → List Int} {G c : Nat} {os : List Lp} {kb : Nat} (hj : j < less.length) (hos' : os.map Lp.xs = bs ++ (less.take j).map f) (ho : wr.ownsRow w.heap.size 28 1 v os.length (lpVals os)) (hx : ∀ x ∈ os, x.At w1.heap.size wr ∧ v.ownBlock ≠ some x.g) (hk : v.ownBlock = some kb) (hk2 : kb = w.heap.size ∨ w1.heap.size ≤ kb) (hon : Only (fun k => k = w.heap.size) w1 wr) (hz : wr.heap.size ≤ w'.heap.size)
    (hb : ∀ k, k < wr.heap.size → v.ownBlock ≠ some k → w'.heap[k]? = wr.heap[k]?) (hos : w'.os = wr.os) (htp : w'.tape = wr.tape) (hout : w'.output = wr.output) (hG : wr.heap.size ≤ G) (hGn : v'.ownBlock ≠ some G) (hrow : Row w' w'.heap.size (some ⟨G, 0, none⟩) (intVals (f less[j]))) (hGl : G < w'.heap.size)
    (hv : v'.ownBlock = v.ownBlock ∨ ∃ k, v'.ownBlock = some k ∧ wr.heap.size ≤ k) (_hw1 : w.heap.size < w1.heap.size)
    (hown : w'.ownsRow w.heap.size 28 1 v' (os.length + 1) (lpVals os ++ [.slice (some ⟨G, 0, none⟩) (f less[j]).length c])) :
    Out w w1 (bs ++ (less.take (j + 1)).map f) v' w' := by
  refine ⟨os ++ [⟨G, c, f less[j]⟩], ?_, ?_, ?_, ?_, ⟨hos.trans hon.os, htp.trans hon.tape, hout.trans hon.output, Nat.le_trans hon.size hz, fun q hq hqn => (hb q (Nat.lt_of_lt_of_le hq hon.size) ?_).trans (hon.block q hq hqn)⟩⟩
  · rw [List.map_append, hos', take_next less j hj, List.map_append, List.append_assoc]
    rfl
  · rw [List.length_append]
    show w'.ownsRow _ _ 1 v' (os.length + 1) _
    rw [show lpVals (os ++ [⟨G, c, f less[j]⟩]) = lpVals os ++ lpVals [⟨G, c, f less[j]⟩] from fl_append os _]
    exact hown
  · intro x hx'
    have hlt := (ho.lt kb hk).2
    rcases List.mem_append.1 hx' with hx' | hx'
    · obtain ⟨hat, hne⟩ := hx x hx'
      refine ⟨hat.keep hz (hb _ hat.lt hne), ?_⟩
      rcases hv with hv | ⟨q, hv, hq⟩
      · rw [hv]
        exact hne
      · rw [hv]
        intro e
        have := Option.some.inj e
        have := hat.lt
        omega
    · rw [List.mem_singleton.1 hx']
      exact ⟨⟨hrow, Nat.le_trans hon.size hG, hGl⟩, hGn⟩
  · rcases hv with hv | ⟨q, hv, hq⟩
    · exact ⟨kb, hv.trans hk, hk2⟩
    · exact ⟨q, hv, .inr (Nat.le_trans hon.size hq)⟩
  · rw [hk]
    intro e
    have := Option.some.inj e
    omega
set_option maxRecDepth 100000 in
set_option maxHeartbeats 1600000 in
theorem specLists_zero (m : Nat) (t : Int) (w : World) : Calls Tryz.prog 69 #[.int .i64 0, .int .i64 t] w (GaveLists (listsS m 0) w) := by
  have hB1 := (Below.refl w.heap.size w).alloc (Nat.le_refl _) (.cells #[] 3)
  have hB2 := (Below.refl (w.alloc (.cells #[] 3)).heap.size (w.alloc (.cells #[] 3))).alloc (Nat.le_refl _) (.cells #[.slice (some ⟨w.heap.size, 0, none⟩) 0 0] 28)
  have hs1 : (w.alloc (.cells #[] 3)).heap.size = w.heap.size + 1 := by simp
  have hrow := own_row (own_lit (w := w.alloc (.cells #[] 3)) (base := 0) (e := 28) (.slice (some ⟨w.heap.size, 0, none⟩) 0 0) (Nat.zero_le _))
  rw [hs1] at hrow
  have HF := Lib.hid (show GaveLists (listsS m 0) w (.returned (.slice (some ⟨w.heap.size + 1, 0, none⟩) 1 1)) ((w.alloc (.cells #[] 3)).alloc (.cells #[.slice (some ⟨w.heap.size, 0, none⟩) 0 0] 28)) from
    ⟨w.heap.size + 1, 1, [⟨w.heap.size, 0, []⟩], rfl, rfl, ⟨hrow, fun x hx => by
      rw [List.mem_singleton.1 hx]
      exact ⟨fun k u hu => by simp [intVals] at hu, Nat.le_refl _, by simp; omega⟩, Nat.le_succ _, by simp⟩, hB1.trans (hB2.mono (by simp))⟩)
  clear hB1 hB2 hs1 hrow
  go_enter Tryz.func69, Tryz.ntmps69
  go_wp2
  go_ret
  exact HF.out
set_option maxRecDepth 100000 in
set_option maxHeartbeats 1600000 in
theorem specLists_succ (m : Nat) (hm : m ≤ 4) (t : Int) (ht : t = (m : Int) - 2) (n : Nat) (hn : n + 1 ≤ 4) (ih : ∀ w : World, Calls Tryz.prog 69 #[.int .i64 (n : Int), .int .i64 t] w (GaveLists (listsS m n) w)) (w : World) :
    Calls Tryz.prog 69 #[.int .i64 ((n : Int) + 1), .int .i64 t] w (GaveLists (listsS m (n + 1)) w) := by
  obtain ⟨i0, hi9, hz0, hz1, hz2⟩ := info_parts listInfo
  obtain ⟨j0, hj9, hy0, hy1, hy2⟩ := info_parts numInfo9
  have hls := listsS_le (m := m) (n := n) hm (by omega)
  have hle2 := listsS_le (m := m) (n := n + 1) hm hn
  have hsl : ∀ l ∈ listsS m n, l.length ≤ 4 := fun l hl => by rw [listsS_each hl]; omega
  have hne : ((n : Int) + 1 == 0) = false := by
    simp only [beq_eq_false_iff_ne, ne_eq]
    omega
  have hdef : listsS m (n + 1) = rowsS (listsS m n) m := rfl
  have HT := Lib.hid ht
  clear ht
  generalize listsS m n = less at *
  generalize hbig : listsS m (n + 1) = big at *
  clear hbig
  go_enter Tryz.func69, Tryz.ntmps69
  go_wp2_with fail
  have ho0 := World.ownsRow_made (e := 28) (size := 1) (base := w.heap.size) w #[] 0 (Nat.le_refl _) (Nat.zero_le _) rfl
  have hb0 := (Below.refl w.heap.size w).alloc (Nat.le_refl _) (.cells #[] 28)
  refine (ih _).mono ?_
  rintro e w1 ⟨g, cap, ls, hbs, rfl, hat, hb1⟩
  have ho1 := own_keeps ho0 hb1
  have hB1 := hb0.trans (hb1.mono hb0.size)
  have hlt1 : w.heap.size < w1.heap.size := by have := hb1.size; simp at this; omega
  have hat' : ListsAt (w.heap.size + 1) w1 g ls := by simpa using hat
  have hll : ls.length = less.length := by rw [← hbs]; simp
  have hO : Out w w1 (rowsS less 0) (.slice (some ⟨w.heap.size, 0, none⟩) 0 0) w1 := ⟨[], rfl, ho1, fun x hx => by simp at hx, ⟨_, rfl, .inl rfl⟩, Only.refl⟩
  have HAT := Lib.hid hat'
  have HBS := Lib.hid hbs
  have HB1 := Lib.hid hB1
  have HDEF := Lib.hid hdef
  clear ho0 hb0 hb1 ho1 hB1 hat hat' hbs hdef ih
  go_wp2
  go_loopw [5, 7] (fun v a wr => ∃ i : Nat, i ≤ m ∧ a = .int .i64 ((i : Int) - 1) ∧ Out w w1 (rowsS less i) v wr) (fun _ a _ => (m + 1 - (intOf a + 1).toNat))
  case atStart => exact ⟨0, Nat.zero_le _, rfl, hO⟩
  case round =>
    obtain ⟨i, him, rfl, hO⟩ := hrel
    by_cases hlt : i < m
    · have hle : ((i : Int) - 1 ≤ t) := by have := HT.out; omega
      have hO0 := out_start less (fun l => ((i : Int) - 1) :: l) hO
      clear hO
      go_wp2
      go_loopw [5, 8] (fun v k wq => ∃ j : Nat, j ≤ less.length ∧ k = .int .i64 j ∧ Out w w1 (rowsS less i ++ (less.take j).map (fun l => ((i : Int) - 1) :: l)) v wq) (fun _ k _ => (less.length - (intOf k).toNat))
      case atStart => exact ⟨0, Nat.zero_le _, rfl, hO0⟩
      case round =>
        obtain ⟨j, hj, rfl, hO⟩ := hrel
        by_cases hlj : j < less.length
        · have hlj' : j < ls.length := by omega
          obtain ⟨os, hos', ho, hx, ⟨kb, hkb, hkb2⟩, hon⟩ := hO
          have hat : ListsAt (w.heap.size + 1) wr g ls := HAT.out.keep hon.size (fun k h1 h2 => hon.block k h2 (by omega))
          obtain ⟨c0, hL⟩ := hat.item j hlj'
          have hxs : ls[j].xs = less[j] := by
            have h1 : (ls.map Lp.xs)[j]? = less[j]? := by rw [HBS.out]
            simpa [hlj', hlj] using h1
          have hl4 : less[j].length ≤ 4 := hsl _ (List.getElem_mem hlj)
          obtain ⟨cv, rfl⟩ := own_some ho hkb
          have hkl : kb < wr.heap.size := (ho.lt kb hkb).2
          have hgl : g < wr.heap.size := hat.lt
          have hgn : ¬ g = wr.heap.size := by omega
          have hosl : os.length + 1 ≤ 256 := by
            have h1 := congrArg List.length hos'
            simp only [List.length_append, List.length_map, List.length_take, rowsS_length] at h1
            have h2 : (rowsS less m).length ≤ 256 := by rw [← HDEF.out]; exact hle2
            rw [rowsS_length] at h2
            have h3 : i * less.length + less.length ≤ m * less.length := by rw [← Nat.succ_mul]; exact Nat.mul_le_mul_right _ hlt
            omega
          generalize ls[j] = y at *
          rw [← hxs] at hl4
          have hlit := own_lit (w := wr) (base := wr.heap.size) (e := 3) (.int .i64 ((i : Int) - 1)) (Nat.le_refl _)
          have hnews : ∀ p u, (intVals y.xs)[p]? = some u → (wr.alloc (.cells #[.int .i64 ((i : Int) - 1)] 3)).cell? ((⟨y.g, 0, none⟩ : Addr).add p) = some u := by
            intro p u hu
            obtain ⟨b, o, e, _, hc⟩ := (hL.below ((Below.refl _ _).alloc (Nat.le_refl _) (.cells #[.int .i64 ((i : Int) - 1)] 3))).row p u hu
            injection e with e
            injection e with e1 e2 _
            subst e1 e2
            rw [add_plain]
            exact hc
          have Hxs := Lib.hid hxs
          have Hos := Lib.hid hos'
          have Ho := Lib.hid ho
          have Hx := Lib.hid hx
          have Hon := Lib.hid hon
          have Hkb := Lib.hid hkb
          have HL := Lib.hid hL
          clear hxs hos' ho hx hon hkb hL hat hO0
          go_wp2_with (first
            | (at_builtin; refine wpList_append_own_at _ rfl (.tmp 31) (.tmp 35) 28 rfl wr.heap.size 3 j0 (.int .i64 0) 1 8 Tryz.underlying28 hj9 hy0 hy1 hy2 rfl (by decide) (.slice (some ⟨wr.heap.size, 0, none⟩) 1 1) 1 [.int .i64 ((i : Int) - 1)] rfl hlit ⟨y.g, 0, none⟩ y.xs.length y.c (intVals y.xs) rfl (by simp [intVals]) hnews (intVals_ones _) (by unfold maxLen; omega) (by omega) (by simp) ?_; intro v5 w5 hown5 hg5 _ hloc; obtain ⟨G, c5, rfl, hG⟩ := loc_some hown5 hloc; have HG := Lib.hid hG; have HO5 := Lib.hid hown5; have HG5 := Lib.hid hg5; have HO := Lib.hid (own_other (Ho.out.alloc (.cells #[.int .i64 ((i : Int) - 1)] 3)) hg5 (fun k hk e => by rw [Hkb.out] at hk; simp only [Value.ownBlock] at e; have h1 := Option.some.inj hk; have h2 := Option.some.inj e; omega)); clear hown5 hg5 hloc hG)
            | (at_builtin; refine wpList_append_own_at _ rfl (.tmp 29) (.tmp 37) 103 rfl w.heap.size 28 i0 (.slice none 0 0) 1 24 Tryz.underlying103 hi9 hz0 hz1 hz2 rfl (by decide) _ os.length (lpVals os) rfl (HO.out.alloc _) ⟨w5.heap.size, 0, none⟩ 1 1 [.slice (some ⟨G, 0, none⟩) (1 + y.xs.length) c5] rfl rfl ?_ ?_ ?_ ?_ ?_ ?_; (focus exact lit_news _ _ _); (focus exact lit_one _ _ _); (focus (unfold maxLen; omega)); (focus omega); (focus (have h5 := HG5.out.size; simp at h5 ⊢; omega)); intro v6 w6 hown6 hg6 _ hloc6; have HO6 := Lib.hid hown6; have HG6 := Lib.hid hg6; have HL6 := Lib.hid hloc6; clear hown6 hg6 hloc6)
            | fail)
          go_roundw
          case rel =>
            have hg6 : (w5.alloc (.cells #[.slice (some ⟨G, 0, none⟩) (1 + y.xs.length) c5] 28)).grownBy w6 (some kb) := HG6.out
            have hl6 : v6.ownBlock = some kb ∨ v6.ownBlock = some (w5.alloc (.cells #[.slice (some ⟨G, 0, none⟩) (1 + y.xs.length) c5] 28)).heap.size := HL6.out
            have hg5 : (wr.alloc (.cells #[.int .i64 ((i : Int) - 1)] 3)).grownBy w5 (some wr.heap.size) := HG5.out
            have hG : G = wr.heap.size ∨ G = (wr.alloc (.cells #[.int .i64 ((i : Int) - 1)] 3)).heap.size := HG.out
            have ha1 := (Below.refl wr.heap.size wr).alloc (Nat.le_refl _) (.cells #[.int .i64 ((i : Int) - 1)] 3)
            have ha2 := (Below.refl w5.heap.size w5).alloc (Nat.le_refl _) (.cells #[.slice (some ⟨G, 0, none⟩) (1 + y.xs.length) c5] 28)
            have z1 : (wr.alloc (.cells #[.int .i64 ((i : Int) - 1)] 3)).heap.size = wr.heap.size + 1 := by simp
            have z2 : (w5.alloc (.cells #[.slice (some ⟨G, 0, none⟩) (1 + y.xs.length) c5] 28)).heap.size = w5.heap.size + 1 := by simp
            have z5 := hg5.size
            have z6 := hg6.size
            rw [z1] at z5 hG
            rw [z2] at z6 hl6
            have hG5 := (HO5.out.lt G rfl).2
            have hGk : G ≠ kb := by omega
            have hrow := own_row HO5.out
            have hGb : w6.heap[G]? = w5.heap[G]? := (hg6.block G (by rw [z2]; omega) (fun e => hGk (Option.some.inj e))).trans (ha2.block G hG5)
            have hrow6 : Row w6 w6.heap.size (some ⟨G, 0, none⟩) (intVals (((i : Int) - 1) :: less[j])) := by
              intro q u hu
              rw [← Hxs.out] at hu
              obtain ⟨b, o, e, hl, hc⟩ := hrow q u hu
              injection e with e
              injection e with e1 e2 _
              subst e1 e2
              exact ⟨_, _, rfl, by omega, (World.cell?_of_block hGb).trans hc⟩
            refine ⟨j + 1, by omega, by go_num, out_next (f := fun l => ((i : Int) - 1) :: l) (c := c5) hlj Hos.out Ho.out Hx.out Hkb.out hkb2 Hon.out (by omega) (fun q hq hqn => ?_) (hg6.os.trans (ha2.os.trans (hg5.os.trans ha1.os))) (hg6.tape.trans (ha2.tape.trans (hg5.tape.trans ha1.tape))) (hg6.output.trans (ha2.output.trans (hg5.output.trans ha1.output))) (by omega) ?_ hrow6 (by omega) ?_ hlt1 ?_⟩
            · rw [Hkb.out] at hqn
              exact (hg6.block q (by rw [z2]; omega) (fun e => hqn e.symm)).trans ((ha2.block q (by omega)).trans ((hg5.block q (by rw [z1]; omega) (fun e => by have := Option.some.inj e; omega)).trans (ha1.block q hq)))
            · rcases hl6 with e | e
              · rw [e]; exact fun h => hGk (Option.some.inj h).symm
              · rw [e]; exact fun h => by have := Option.some.inj h; omega
            · rcases hl6 with e | e
              · exact .inl (e.trans Hkb.out.symm)
              · exact .inr ⟨_, e, by omega⟩
            · have h6 := HO6.out
              rw [show ((((i : Int) - 1) :: less[j]).length) = 1 + y.xs.length by rw [← Hxs.out]; simp; omega]
              exact h6
          case measure => simp [intOf]; omega
        · have hje : j = less.length := by omega
          have HN := Lib.hid (out_full hje rfl hO)
          clear hO hO0
          go_wp2
          go_roundw
          case rel => exact ⟨i + 1, by omega, by go_num, HN.out⟩
          case measure => simp [intOf]; omega
    · have hie : i = m := by omega
      have hgt : ¬ ((i : Int) - 1 ≤ t) := by have := HT.out; omega
      subst hie
      obtain ⟨os, hos, ho, hx, ⟨kb, hkb, _⟩, hon⟩ := hO
      obtain ⟨cv, rfl⟩ := own_some ho hkb
      have HE := Lib.hid (show GaveLists big w (.returned (.slice (some ⟨kb, 0, none⟩) os.length cv)) wr from
        ⟨kb, cv, os, by rw [hos, HDEF.out], rfl, ⟨own_row ho, fun x hx' => (hx x hx').1.mono (by omega), (ho.lt kb hkb).1, (ho.lt kb hkb).2⟩, hon.below HB1.out HB1.out.size (fun k hk => by omega)⟩)
      clear hos ho hx hkb hon
      go_wp2
      go_ret
      exact HE.out
theorem specLists (m : Nat) (hm : m ≤ 4) (t : Int) (ht : t = (m : Int) - 2) : ∀ (n : Nat), n ≤ 4 → ∀ (w : World), Calls Tryz.prog 69 #[.int .i64 (n : Int), .int .i64 t] w (GaveLists (listsS m n) w)
  | 0, _, w => specLists_zero m t w
  | n + 1, hn, w => by
    rw [show (((n + 1 : Nat) : Int)) = (n : Int) + 1 by omega]
    exact specLists_succ m hm t ht n hn (specLists m hm t ht n (by omega)) w
end Go.Proofs.YtpmmjaceehlpiaaGreatDoor
/-
  The model compares two states, and adds a state to a list.
-/
namespace Go.Proofs.YtpmmjaceehlpiaaGreatDoor
open Go Go.RowKit Go.ChangeShapes Go.WideShapes Go.ChangeAt

def sameSp (p q : Int) (vs zs us ys : List Int) : Bool := decide (p = q) && sameH vs zs us ys
theorem sameSp_iff {p q : Int} {vs zs us ys : List Int} : sameSp p q vs zs us ys = true ↔ p = q ∧ vs = us ∧ zs = ys := by simp [sameSp, sameH]
set_option maxHeartbeats 800000 in
theorem specEqualState (p q : Int) (a b c d : Option Addr) (ca cb cc cd : Nat) (vs zs us ys : List Int) (w : World) (hn : vs.length ≤ maxLen) (hm : zs.length ≤ maxLen) (h : HeapAt w a b vs zs) (h' : HeapAt w c d us ys) :
    Calls Tryz.prog 20 #[spC p a vs.length ca b zs.length cb, spC q c us.length cc d ys.length cd] w (GaveX (.bool (sameSp p q vs zs us ys)) w) := by
  have hb0 : ∀ u v t t', Below w.heap.size w ((w.alloc (.cells u t)).alloc (.cells v t')) := fun u v t t' => ((Below.refl _ _).alloc (Nat.le_refl _) _).alloc (by simp) _
  by_cases hpq : p = q
  · subst hpq
    have hs : sameSp p p vs zs us ys = sameH vs zs us ys := by simp [sameSp]
    rw [hs]
    obtain ⟨bb, hbb⟩ : ∃ bb, sameH vs zs us ys = bb := ⟨_, rfl⟩
    rw [hbb]
    have HBB := Lib.hid hbb
    clear hs hbb
    go_enter Tryz.func20, Tryz.ntmps20
    go_wp2_with fail
    refine (specEqualHeap a b c d ca cb cc cd vs zs us ys _ hn hm (h.below (hb0 _ _ _ _) (Nat.le_refl _)) (h'.below (hb0 _ _ _ _) (Nat.le_refl _))).mono ?_
    rw [HBB.out]
    rintro e w1 ⟨rfl, hb1⟩
    have hB := (hb0 _ _ _ _).trans (hb1.mono (hb0 _ _ _ _).size)
    have HE := Lib.hid hB
    clear hb1 hB
    go_wp2
    go_ret
    exact ⟨rfl, HE.out⟩
  · have hs : sameSp p q vs zs us ys = false := by simp [sameSp, hpq]
    rw [hs]
    have hne : (p == q) = false := by simpa using hpq
    have HE := Lib.hid hb0
    clear hs hpq hb0
    go_enter Tryz.func20, Tryz.ntmps20
    go_wp2
    go_ret
    exact ⟨rfl, HE.out _ _ _ _⟩
end Go.Proofs.YtpmmjaceehlpiaaGreatDoor
/-
  The law writes marks into a state, into the states of a row, and looks later whether they are still there.
-/
namespace Go.Proofs.YtpmmjaceehlpiaaGreatDoor
open Go Go.RowKit

set_option maxHeartbeats 800000 in
/-- Marks laid into a state's heap. -/
theorem markState (lo hi k : Nat) (p : Int) (a b : Option Addr) (ca cb n m : Nat) (xs ys : List Value) (w : World) (hxl : xs.length = n) (hyl : ys.length = m) (hn : n ≤ 54975581388) (hm : m ≤ 54975581388) (hk : k ≤ 54975581388) (h : HeapIn lo hi w a ca b cb xs ys) :
    Calls Tryz.prog 34 #[spC p a n ca b m cb, .int .i64 k] w (MarkedHeap lo hi k n m a b ca cb w) := by
  have hhi := h.v.1
  go_enter Tryz.func34, Tryz.ntmps34
  go_wp2_with fail
  have hb0 : ∀ u t, Below w.heap.size w (w.alloc (.cells u t)) := fun u t => (Below.refl _ _).alloc (Nat.le_refl _) _
  refine (markHeap lo hi k n m a b ca cb xs ys _ hxl hyl hn hm hk (h.below (hb0 _ _))).mono ?_
  rintro e w1 ⟨rfl, hin, ht⟩
  have hT := (Turn.of_below (lo := lo) (hi := hi) (hb0 _ _)).trans ht
  have HF := Lib.hid (And.intro hin hT)
  clear hin ht hT
  go_wp2
  go_ret
  exact ⟨rfl, HF.out.1, HF.out.2⟩

set_option maxHeartbeats 800000 in
theorem heldState (k : Nat) (p : Int) (n m : Nat) (a b : Option Addr) (ca cb : Nat) (w : World) (hn : n ≤ 54975581388) (hm : m ≤ 54975581388) (hk : k ≤ 54975581388) (h : HeapAt w a b (numsFrom k n) (numsFrom (k + n) m)) :
    Calls Tryz.prog 35 #[spC p a n ca b m cb, .int .i64 k] w (GaveX (.int .i64 ((k + n + m : Nat) : Int)) w) := by
  go_enter Tryz.func35, Tryz.ntmps35
  go_wp2_with fail
  have hb0 : ∀ u t, Below w.heap.size w (w.alloc (.cells u t)) := fun u t => (Below.refl _ _).alloc (Nat.le_refl _) _
  refine (heldHeap k n m a b ca cb _ hn hm hk (h.below (hb0 _ _) (Nat.le_refl _))).mono ?_
  rintro e w1 ⟨rfl, hb1⟩
  have HB := Lib.hid ((hb0 _ _).trans (hb1.mono (hb0 _ _).size))
  have q0 : ¬ ((k + n + m : Nat) : Int) < 0 := by omega
  clear hb1
  go_wp2
  go_ret
  exact ⟨rfl, HB.out⟩

/-- A state that bears the marks from k on. -/
def markSp (k : Nat) (x : Sp) : Sp := ⟨(k : Int), markHp (k + 1) x.h⟩
def spSize (x : Sp) : Nat := 1 + hpSize x.h
def spTotal (ss : List Sp) : Nat := (ss.map spSize).sum
theorem spTotal_next (ss : List Sp) (k : Nat) (h : k < ss.length) : spTotal (ss.take (k + 1)) = spTotal (ss.take k) + spSize ss[k] := by
  unfold spTotal
  rw [take_next ss k h, List.map_append, List.sum_append, List.map_cons, List.map_nil, List.sum_cons, List.sum_nil, Nat.add_zero]
theorem spTotal_take : ∀ (ss : List Sp) (k : Nat), spTotal (ss.take k) ≤ spTotal ss
  | [], k => by simp [spTotal]
  | x :: ss, 0 => by simp [spTotal]
  | x :: ss, k + 1 => by
    have := spTotal_take ss k
    simp only [spTotal, List.take_succ_cons, List.map_cons, List.sum_cons] at *
    omega
theorem spTotal_cons (x : Sp) (ss : List Sp) : spTotal (x :: ss) = spSize x + spTotal ss := by simp [spTotal]
def markSps (k : Nat) : List Sp → List Sp
  | [] => []
  | x :: ss => markSp k x :: markSps (k + spSize x) ss
theorem markSps_length : ∀ (k : Nat) (ss : List Sp), (markSps k ss).length = ss.length
  | _, [] => rfl
  | k, x :: ss => by simp [markSps, markSps_length]
theorem markSps_snoc : ∀ (k : Nat) (ss : List Sp) (x : Sp), markSps k (ss ++ [x]) = markSps k ss ++ [markSp (k + spTotal ss) x]
  | k, [], x => by simp [markSps, spTotal]
  | k, y :: ss, x => by
    show markSp k y :: markSps (k + spSize y) (ss ++ [x]) = markSp k y :: (markSps (k + spSize y) ss ++ _)
    rw [markSps_snoc, spTotal_cons, Nat.add_assoc]
theorem markSp_at (k : Nat) : ∀ (ss : List Sp) (j : Nat) (h : j < ss.length), (markSps k ss)[j]'(by rw [markSps_length]; exact h) = markSp (k + spTotal (ss.take j)) ss[j]
  | x :: ss, 0, _ => by simp [markSps, spTotal]
  | x :: ss, j + 1, h => by
    have h' : j < ss.length := by simpa using h
    have := markSp_at (k + spSize x) ss j h'
    simp only [markSps, List.getElem_cons_succ, List.take_succ_cons]
    rw [this, spTotal_cons, Nat.add_assoc]
def curS (k : Nat) (ss : List Sp) (j : Nat) : List Sp := markSps k (ss.take j) ++ ss.drop j
theorem curS_zero (k : Nat) (ss : List Sp) : curS k ss 0 = ss := by simp [curS, markSps]
theorem curS_full (k : Nat) (ss : List Sp) : curS k ss ss.length = markSps k ss := by simp [curS]
theorem curS_length (k : Nat) (ss : List Sp) {j : Nat} (h : j ≤ ss.length) : (curS k ss j).length = ss.length := by simp [curS, markSps_length]; omega
theorem curS_at (k : Nat) (ss : List Sp) {j : Nat} (h : j < ss.length) : (curS k ss j)[j]'(by rw [curS_length k ss (by omega)]; exact h) = ss[j] := by
  have hl : (markSps k (ss.take j)).length = j := by rw [markSps_length]; simp; omega
  simp only [curS]
  rw [List.getElem_append_right (by omega)]
  simp [hl]
theorem curS_next (k : Nat) (ss : List Sp) {j : Nat} (h : j < ss.length) : curS k ss (j + 1) = (curS k ss j).set j (markSp (k + spTotal (ss.take j)) ss[j]) := by
  have hl : (markSps k (ss.take j)).length = j := by rw [markSps_length]; simp; omega
  unfold curS
  rw [take_next ss j h, markSps_snoc, List.drop_eq_getElem_cons h, List.set_append_right _ _ (by omega), hl, Nat.sub_self, List.set_cons_zero, List.append_assoc]
  rfl
theorem markSps_has : ∀ (k : Nat) (ss : List Sp) (x : Sp), x ∈ markSps k ss → ∃ y ∈ ss, ∀ i, x.h.has i → y.h.has i
  | _, [], x, hx => by simp [markSps] at hx
  | k, y :: ss, x, hx => by
    rcases List.mem_cons.1 hx with rfl | hx
    · exact ⟨y, List.mem_cons_self, fun i hi => has_mark.1 hi⟩
    · obtain ⟨z, hz, h⟩ := markSps_has _ ss x hx
      exact ⟨z, List.mem_cons_of_mem _ hz, h⟩
theorem curS_has {k : Nat} {ss : List Sp} {j i : Nat} (h : hasAny ((curS k ss j).map Sp.h) i) : hasAny (ss.map Sp.h) i := by
  obtain ⟨y, hy, hi⟩ := h
  obtain ⟨x, hx, rfl⟩ := List.mem_map.1 hy
  rcases List.mem_append.1 hx with hx | hx
  · obtain ⟨z, hz, hh⟩ := markSps_has _ _ _ hx
    exact ⟨z.h, List.mem_map_of_mem (List.mem_of_mem_take hz), hh i hi⟩
  · exact ⟨x.h, List.mem_map_of_mem (List.mem_of_mem_drop hx), hi⟩
/-- The first cell of an element is written. -/
theorem fl_set {α : Type} {c : α → List Value} {s : Nat} (hc : ∀ x, (c x).length = s) {xs : List α} {j : Nat} (hj : j < xs.length) (hs : 0 < s) (y : α) (v : Value) (hy : c y = (c xs[j]).set 0 v) : (fl c xs).set (j * s) v = fl c (xs.set j y) := by
  apply List.ext_getElem?
  intro i
  have hlen : (fl c xs).length = xs.length * s := fl_length hc xs
  have hlen2 : (fl c (xs.set j y)).length = xs.length * s := by rw [fl_length hc, List.length_set]
  rcases Nat.lt_or_ge i (xs.length * s) with hi | hi
  · have hq : i / s < xs.length := Nat.div_lt_of_lt_mul (by rw [Nat.mul_comm]; exact hi)
    have hm : i % s < s := Nat.mod_lt _ hs
    have he : i / s * s + i % s = i := Nat.div_add_mod' i s
    have h2 := fl_at hc (xs.set j y) (i / s) (by rw [List.length_set]; exact hq) (i % s) hm
    have h1 := fl_at hc xs (i / s) hq (i % s) hm
    rw [he] at h1 h2
    rw [h2, List.getElem?_set, List.getElem_set]
    by_cases hji : j = i / s
    · subst hji
      rw [if_pos rfl, hy, List.getElem?_set]
      by_cases h0 : i % s = 0
      · have hi0 : i / s * s = i := by omega
        rw [if_pos hi0, if_pos h0.symm, if_pos (by rw [hi0, hlen]; exact hi), if_pos (by rw [hc]; exact hs)]
      · rw [if_neg (by omega), if_neg (fun e => h0 e.symm)]
        exact h1
    · rw [if_neg hji]
      have hne : ¬ j * s = i := by
        intro e
        apply hji
        rw [← e, Nat.mul_div_cancel _ hs]
      rw [if_neg hne]
      exact h1
  · rw [List.getElem?_eq_none (by rw [List.length_set, hlen]; exact hi), List.getElem?_eq_none (by rw [hlen2]; exact hi)]

/-- The blocks of a row of states: its own, and those of its heaps. -/
def allOf (a : Option Addr) (n cap : Nat) (ss : List Sp) (k : Nat) : Prop := (Value.slice a n cap).ownBlock = some k ∨ hasAny (ss.map Sp.h) k
theorem spCells_mark (k : Nat) (x : Sp) : spCells (markSp k x) = (spCells x).set 0 (.int .i64 (k : Int)) := by simp [spCells, markSp, markHp, numsFrom_length]
/-- Marks laid into a row of states. -/
def MarkedStates (lo k : Nat) (a : Option Addr) (cap : Nat) (ss : List Sp) (w : World) (e : Ending) (w' : World) : Prop :=
  e = .returned (.int .i64 ((k + spTotal ss : Nat) : Int)) ∧ w'.ownsRow lo 34 3 (.slice a ss.length cap) ss.length (spVals (markSps k ss)) ∧ HeapsIn lo w' ((markSps k ss).map Sp.h) ∧ Only (allOf a ss.length cap ss) w w'
set_option maxHeartbeats 1600000 in
theorem markStateRows (lo k : Nat) (a : Option Addr) (cap : Nat) (ss : List Sp) (w : World) (hn : ss.length ≤ 1099511627776) (hk : k + spTotal ss ≤ 54975581388) (hown : w.ownsRow lo 34 3 (.slice a ss.length cap) ss.length (spVals ss)) (hoff : ∀ g, (Value.slice a ss.length cap).ownBlock = some g → ¬ hasAny (ss.map Sp.h) g) (h : HeapsIn lo w (ss.map Sp.h)) :
    Calls Tryz.prog 41 #[.slice a ss.length cap, .int .i64 k] w (MarkedStates lo k a cap ss w) := by
  go_enter Tryz.func41, Tryz.ntmps41
  go_wp2
  go_loopw [1, 5] (fun m i wr => ∃ j : Nat, j ≤ ss.length ∧ i = .int .i64 j ∧ m = .int .i64 ((k + spTotal (ss.take j) : Nat) : Int) ∧ wr.ownsRow lo 34 3 (.slice a ss.length cap) ss.length (spVals (curS k ss j)) ∧ HeapsIn lo wr ((curS k ss j).map Sp.h) ∧ Only (allOf a ss.length cap ss) w wr) (fun _ i _ => ss.length - (intOf i).toNat)
  case atStart => exact ⟨0, Nat.zero_le _, rfl, by simp [spTotal], by rw [curS_zero]; exact hown, by rw [curS_zero]; exact h, Only.refl⟩
  case round =>
    obtain ⟨j, hj, rfl, rfl, ho, hin, ht⟩ := hrel
    by_cases hlt : j < ss.length
    · obtain ⟨g, rfl⟩ : ∃ g, a = some ⟨g, 0, none⟩ := by
        rcases ho.2 with ⟨_, h0⟩ | ⟨g, _, _, hv, _⟩
        · omega
        · injection hv with hv _ _
          exact ⟨g, hv⟩
      have hnb := hoff g rfl
      have hlc : j < (curS k ss j).length := by rw [curS_length k ss (by omega)]; exact hlt
      have hlh : j < ((curS k ss j).map Sp.h).length := by rw [List.length_map]; exact hlc
      have hcur := curS_at k ss hlt
      have hmem : ss[j].h ∈ ss.map Sp.h := List.mem_map_of_mem (List.getElem_mem hlt)
      have hx := hin.each _ (List.getElem_mem hlh)
      rw [List.getElem_map, hcur] at hx
      have htot := spTotal_next ss j hlt
      have hle : spTotal (ss.take (j + 1)) ≤ spTotal ss := spTotal_take ss (j + 1)
      have hset := curS_next k ss hlt
      have hS : ∀ i, ss[j].h.has i → allOf (some ⟨g, 0, none⟩) ss.length cap ss i := fun i hi => .inr ⟨_, hmem, hi⟩
      have hxb : ¬ ss[j].h.has g := fun hb => hnb ⟨_, hmem, hb⟩
      have hcells := fun i (hi : i < 3) => (fl_at spCells_length (curS k ss j) j hlc i hi)
      rw [hcur] at hcells
      obtain ⟨old0, v0⟩ : ∃ old, wr.cell? ⟨g, j * 3, none⟩ = some old := ⟨_, (ho.cellAt (j * 3) (by omega)).trans (hcells 0 (by omega))⟩
      have hf0 := ho.frozenAt (j * 3)
      have hgw : g < wr.heap.size := (ho.lt g rfl).2
      have hstore := (ho.stored (j * 3) (.int .i64 ((k : Int) + (spTotal (ss.take j) : Int)))).1
      rw [fl_set spCells_length hlc (by omega) (markSp (k + spTotal (ss.take j)) ss[j]) _ (by rw [hcur, show (k : Int) + (spTotal (ss.take j) : Int) = ((k + spTotal (ss.take j) : Nat) : Int) by omega]; exact spCells_mark _ _)] at hstore
      have hlc1 : j < ((curS k ss j).set j (markSp (k + spTotal (ss.take j)) ss[j])).length := by rw [List.length_set]; exact hlc
      have hcells1 := fun i (hi : i < 3) => (fl_at spCells_length ((curS k ss j).set j (markSp (k + spTotal (ss.take j)) ss[j])) j hlc1 i hi)
      rw [List.getElem_set_self] at hcells1
      have v1 := (hstore.cellAt (j * 3 + 1) (by omega)).trans (hcells1 1 (by omega))
      have v2 := (hstore.cellAt (j * 3 + 2) (by omega)).trans (hcells1 2 (by omega))
      simp only [spCells, markSp, markHp, numsFrom_length, List.getElem?_cons_succ, List.getElem?_cons_zero] at v1 v2
      rw [← hset] at hstore
      have hin1 : HeapsIn lo (wr.setCell ⟨g, j * 3, none⟩ (.int .i64 ((k : Int) + (spTotal (ss.take j) : Int)))) ((curS k ss j).map Sp.h) :=
        hin.same (by simp) fun x hx i hi => Below.heap_setCell _ _ _ _ (by show i ≠ g; exact fun e => hnb (curS_has ⟨x, hx, e ▸ hi⟩))
      have ht1 : Only (allOf (some ⟨g, 0, none⟩) ss.length cap ss) w (wr.setCell ⟨g, j * 3, none⟩ (.int .i64 ((k : Int) + (spTotal (ss.take j) : Int)))) := ht.trans (Only.set (.inl rfl))
      have hg1 : g < (wr.setCell ⟨g, j * 3, none⟩ (.int .i64 ((k : Int) + (spTotal (ss.take j) : Int)))).heap.size := by simpa using hgw
      have hx := hin1.each _ (List.getElem_mem hlh)
      rw [List.getElem_map, hcur] at hx
      have hm : spSize ss[j] = 1 + (ss[j].h.vs.length + ss[j].h.zs.length) := rfl
      have HST := Lib.hid (show ∀ W1, HeapsIn lo W1 ((curS k ss j).map Sp.h) → ∀ W2, W1.heap.size ≤ W2.heap.size → (markHp (k + spTotal (ss.take j) + 1) ss[j].h).In lo W2.heap.size W2 → (∀ i, i < W1.heap.size → ¬ ss[j].h.has i → W2.heap[i]? = W1.heap[i]?) → HeapsIn lo W2 ((curS k ss (j + 1)).map Sp.h) by
        intro W1 h1 W2 hz hy hb
        rw [hset, List.map_set]
        exact h1.set hlh hz (by rw [List.getElem_map, hcur]; exact hb) hy (fun i hi => by rw [List.getElem_map, hcur]; exact has_mark.1 hi))
      generalize ss[j] = x at *
      generalize spTotal (ss.take j) = T at *
      have HO := Lib.hid hstore
      have HIN := Lib.hid hin1
      have HT1 := Lib.hid ht1
      have HX := Lib.hid hx
      have HTOT := Lib.hid htot
      have hkm : k + T + 1 + x.h.vs.length + x.h.zs.length ≤ 54975581388 := by omega
      have hxv := hx.v.2.1
      have hxz := hx.z.2.1
      rw [intVals_length] at hxv hxz
      have hap := hx.apart
      rw [intVals_length, intVals_length] at hap
      have HG := Lib.hid hg1
      clear hcells hcells1 hcur hlc1 hset hlh hlc hin hin1 ho hstore ht1 ht hx htot hg1
      go_wp2_with fail
      have ek0 : (k : Int) + (T : Int) + 1 = ((k + T + 1 : Nat) : Int) := by omega
      try rw [ek0]
      refine (markInts lo (k + T + 1) x.h.vs.length x.h.a x.h.ca _ _ (by omega) (by omega) hxv).mono ?_
      rintro e w1 ⟨rfl, ho1, hg1⟩
      have hz1 := own_other hxz hg1 fun i hi e => hap i e.symm hi
      have hO1 := own_other HO.out hg1 fun i hi e => by cases hi; exact hxb (.inl e.symm)
      have d2 : w1.cell? ⟨g, j * 3 + 2, none⟩ = some (.slice x.h.b x.h.zs.length x.h.cb) := (World.cell?_of_block (hg1.block g HG.out fun e => hxb (.inl e.symm))).trans v2
      clear v1 v2 ek0
      go_wp2_with fail
      have ek1 : (k : Int) + (T : Int) + 1 + (x.h.vs.length : Int) = ((k + T + 1 + x.h.vs.length : Nat) : Int) := by omega
      try rw [ek1]
      refine (markInts lo (k + T + 1 + x.h.vs.length) x.h.zs.length x.h.b x.h.cb _ _ (by omega) (by omega) hz1).mono ?_
      rintro e w2 ⟨rfl, ho2, hg2⟩
      obtain ⟨hy, ht2, hb2⟩ := marked_in HX.out hS ho1 hg1 ho2 hg2
      have HF := Lib.hid (And.intro (own_other hO1 hg2 fun i hi e => by cases hi; exact hxb (.inr e.symm)) (And.intro (HST.out _ HIN.out _ (Nat.le_trans hg1.size hg2.size) hy hb2) (HT1.out.trans ht2)))
      have hkT : ((k + T + 1 + x.h.vs.length + x.h.zs.length : Nat) : Int) = ((k + spTotal (ss.take (j + 1)) : Nat) : Int) := by rw [HTOT.out, hm]; omega
      rw [hkT]
      clear ek1 hkT hy ht2 hb2 ho1 ho2 hg1 hg2 hz1 hO1 hxv hxz hap d2 hkm
      go_wp2
      go_roundw
      case rel => exact ⟨j + 1, by omega, by go_num, rfl, HF.out.1, HF.out.2.1, HF.out.2.2⟩
      case measure => simp [intOf]; omega
    · have hj' : j = ss.length := by omega
      subst hj'
      rw [List.take_length] at *
      rw [curS_full] at hin ho
      have HE := Lib.hid (show MarkedStates lo k a cap ss w (.returned (.int .i64 ((k + spTotal ss : Nat) : Int))) wr from ⟨rfl, ho, hin, ht⟩)
      clear hin ht ho
      go_wp2
      go_ret
      exact HE.out

set_option maxHeartbeats 800000 in
theorem heldStateRows (k : Nat) (a : Option Addr) (cap : Nat) (ss : List Sp) (w : World) (hn : ss.length ≤ 1099511627776) (hk : k + spTotal ss ≤ 54975581388) (hrow : StatesAt w a (markSps k ss)) :
    Calls Tryz.prog 42 #[.slice a ss.length cap, .int .i64 k] w (GaveX (.int .i64 ((k + spTotal ss : Nat) : Int)) w) := by
  go_enter Tryz.func42, Tryz.ntmps42
  go_wp2
  go_loopw [1, 5] (fun m i wr => ∃ j : Nat, j ≤ ss.length ∧ i = .int .i64 j ∧ m = .int .i64 ((k + spTotal (ss.take j) : Nat) : Int) ∧ wr = w) (fun _ i _ => ss.length - (intOf i).toNat)
  case atStart => exact ⟨0, Nat.zero_le _, rfl, by simp [spTotal], rfl⟩
  case round =>
    obtain ⟨j, hj, rfl, rfl, rfl⟩ := hrel
    by_cases hlt : j < ss.length
    · obtain ⟨b, o, rfl, hbW, c0, c1, c2, hat⟩ := hrow.item j (by rw [markSps_length]; exact hlt)
      rw [markSp_at k ss j hlt] at c0 c1 c2 hat
      have htot := spTotal_next ss j hlt
      have hle : spTotal (ss.take (j + 1)) ≤ spTotal ss := spTotal_take ss (j + 1)
      have hm : spSize ss[j] = 1 + (ss[j].h.vs.length + ss[j].h.zs.length) := rfl
      generalize ss[j] = x at *
      generalize spTotal (ss.take j) = T at *
      simp only [markSp, markHp, numsFrom_length] at c0 c1 c2
      have hav := hat.v
      have haz := hat.z
      simp only [markSp, markHp] at hav haz
      have hkm : k + T + 1 + x.h.vs.length + x.h.zs.length ≤ 54975581388 := by omega
      have hne : (((k + T : Nat) : Int) != (k : Int) + (T : Int)) = false := by simp
      have HTOT := Lib.hid htot
      clear hat htot
      go_wp2_with fail
      have ek0 : (k : Int) + (T : Int) + 1 = ((k + T + 1 : Nat) : Int) := by omega
      try rw [ek0]
      clear ek0
      refine (heldInts (k + T + 1) x.h.vs.length x.h.a x.h.ca _ (by omega) (by omega) hav).mono ?_
      rintro e w1 ⟨rfl, rfl⟩
      have q0 : ¬ ((k + T + 1 + x.h.vs.length : Nat) : Int) < 0 := by omega
      go_wp2_with fail
      refine (heldInts (k + T + 1 + x.h.vs.length) x.h.zs.length x.h.b x.h.cb _ (by omega) (by omega) haz).mono ?_
      rintro e w1 ⟨rfl, rfl⟩
      have hkT : ((k + T + 1 + x.h.vs.length + x.h.zs.length : Nat) : Int) = ((k + spTotal (ss.take (j + 1)) : Nat) : Int) := by rw [HTOT.out, hm]; omega
      rw [hkT]
      have q1 : ¬ ((k + spTotal (ss.take (j + 1)) : Nat) : Int) < 0 := by omega
      clear c0 c1 c2 hav haz hkT hne
      go_wp2
      go_roundw
      case rel => exact ⟨j + 1, by omega, by go_num, by first | rfl | trivial, by first | rfl | trivial⟩
      case measure => simp [intOf]; omega
    · have hj' : j = ss.length := by omega
      subst hj'
      rw [List.take_length] at *
      go_wp2
      go_ret
      exact ⟨rfl, Below.refl _ _⟩
end Go.Proofs.YtpmmjaceehlpiaaGreatDoor
/-
  The model adds a state to a list that does not have it.
-/
namespace Go.Proofs.YtpmmjaceehlpiaaGreatDoor
open Go Go.RowKit Go.ChangeShapes Go.WideShapes Go.ChangeAt

theorem stateInfo : (Tryz.prog.info? 34).map (fun i => (i.zero, i.size, i.bytes)) = some (some (.agg #[.int .i64 0, .slice none 0 0, .slice none 0 0]), 3, 56) := by kernel_rfl
theorem own_rows {W : World} {base e size n c g : Nat} {xs : List Value} (h : W.ownsRow base e size (.slice (some ⟨g, 0, none⟩) n c) n xs) : Row W W.heap.size (some ⟨g, 0, none⟩) xs := fun k u hu =>
  ⟨g, 0, rfl, (h.lt g rfl).2, by have := h.cells (g := g) rfl k u hu; rwa [add_plain] at this⟩
theorem lit3_news (w : World) (u v x : Value) (t : TypeId) : ∀ j y, [u, v, x][j]? = some y → (w.alloc (.cells #[u, v, x] t)).cell? ((⟨w.heap.size, 0, none⟩ : Addr).add j) = some y := by
  intro j y hj
  have := (BoxL.new w [u, v, x] t).c j y hj
  rw [add_plain, Nat.zero_add]
  exact this
theorem lit3_one (p : Int) (a : Option Addr) (n c : Nat) (b : Option Addr) (m d : Nat) : ∀ u ∈ [Value.int .i64 p, Value.slice a n c, Value.slice b m d], u.oneCell' = true := by
  intro u hu
  simp only [List.mem_cons, List.not_mem_nil, or_false] at hu
  rcases hu with rfl | rfl | rfl <;> rfl

/-- A list of states that is being made: its row, its heaps. -/
structure OutS (base : Nat) (bs : List Sb) (v : Value) (wr : World) (ss : List Sp) (kb : Nat) : Prop where
  body : ss.map Sp.body = bs
  own : wr.ownsRow base 34 3 v ss.length (spVals ss)
  ins : HeapsIn base wr (ss.map Sp.h)
  off : ¬ hasAny (ss.map Sp.h) kb
  blk : v.ownBlock = some kb
section
variable {base kb : Nat} {bs : List Sb} {v : Value} {wr wr' : World} {ss : List Sp}
theorem OutS.below (h : OutS base bs v wr ss kb) (hb : Below wr.heap.size wr wr') : OutS base bs v wr' ss kb := ⟨h.body, own_keeps h.own hb, h.ins.below hb, h.off, h.blk⟩
theorem OutS.at_ {c : Nat} (h : OutS base bs (.slice (some ⟨kb, 0, none⟩) ss.length c) wr ss kb) : StatesAt wr (some ⟨kb, 0, none⟩) ss := ⟨own_rows h.own, fun _ hx => h.ins.at_ (List.mem_map_of_mem hx)⟩
/-- One state more: x is there in wc; the append turns wc to w'. -/
theorem outS_next {wc w' : World} {v' : Value} {x : Sp} (h : OutS base bs v wc ss kb) (hx : x.h.In base wc.heap.size wc) (hn : ∀ y ∈ ss, ∀ k, y.h.has k → ¬ x.h.has k) (hxk : ¬ x.h.has kb)
    (hown : w'.ownsRow base 34 3 v' (ss.length + 1) (spVals ss ++ spCells x)) (hg : wc.grownBy w' (some kb)) (hl : v'.ownBlock = some kb ∨ ∃ k, v'.ownBlock = some k ∧ wc.heap.size ≤ k) :
    ∃ kb', OutS base (bs ++ [x.body]) v' w' (ss ++ [x]) kb' ∧ (kb' = kb ∨ wc.heap.size ≤ kb') := by
  have hin : HeapsIn base wc ((ss ++ [x]).map Sp.h) := by
    rw [List.map_append]
    refine h.ins.snoc hx fun y hy k hk => ?_
    obtain ⟨z, hz, rfl⟩ := List.mem_map.1 hy
    exact hn z hz k hk
  have hoff : ¬ hasAny ((ss ++ [x]).map Sp.h) kb := by
    rintro ⟨y, hy, hk⟩
    rw [List.map_append] at hy
    rcases List.mem_append.1 hy with hy | hy
    · exact h.off ⟨y, hy, hk⟩
    · rw [List.map_cons, List.map_nil] at hy
      rw [List.mem_singleton.1 hy] at hk
      exact hxk hk
  have hin' : HeapsIn base w' ((ss ++ [x]).map Sp.h) := hin.same hg.size fun y hy k hk => hg.block k (hin.has_lt hy hk).2 fun e => hoff ⟨y, hy, (Option.some.inj e) ▸ hk⟩
  have hbody : (ss ++ [x]).map Sp.body = bs ++ [x.body] := by rw [List.map_append, h.body]; rfl
  have hown' : w'.ownsRow base 34 3 v' (ss ++ [x]).length (spVals (ss ++ [x])) := by
    rw [List.length_append, show spVals (ss ++ [x]) = spVals ss ++ spCells x from fl_snoc ss x]
    exact hown
  rcases hl with hl | ⟨k, hl, hk⟩
  · exact ⟨kb, ⟨hbody, hown', hin', hoff, hl⟩, .inl rfl⟩
  · refine ⟨k, ⟨hbody, hown', hin', ?_, hl⟩, .inr hk⟩
    rintro ⟨y, hy, hyk⟩
    have := (hin.has_lt hy hyk).2
    omega
end
def PutEnd (base : Nat) (bs : List Sb) (x : Sb) (kb : Nat) (w : World) (e : Ending) (w' : World) : Prop :=
  ∃ v' ss' kb', e = .returned v' ∧ OutS base (putS bs x) v' w' ss' kb' ∧ (kb' = kb ∨ w.heap.size ≤ kb') ∧ Only (fun k => k = kb) w w'
theorem put_done {base kb lo cv : Nat} {bs : List Sb} {w W0 w1 Wc w7 : World} {ss : List Sp} {p : Int} {N : Hp} {v7 : Value} (hO : OutS base bs (.slice (some ⟨kb, 0, none⟩) ss.length cv) W0 ss kb) (hw : Below w.heap.size w W0) (hB1 : Below W0.heap.size W0 w1) (hN : N.In lo w1.heap.size w1) (hlo : W0.heap.size ≤ lo) (hbase : base ≤ W0.heap.size) (hkb : kb < W0.heap.size)
    (hc : Below w1.heap.size w1 Wc) (own7 : w7.ownsRow base 34 3 v7 (ss.length + 1) (spVals ss ++ spCells ⟨p, N⟩)) (hg7 : Wc.grownBy w7 (some kb)) (hat : v7.ownBlock = some kb ∨ v7.ownBlock = some Wc.heap.size) (hx : (p, N.body) ∉ bs) : PutEnd base bs (p, N.body) kb w (.returned v7) w7 := by
  have hz1 := hB1.size
  have hz2 := hc.size
  have hz0 := hw.size
  have hBc : Below W0.heap.size W0 Wc := hB1.trans (hc.mono hz1)
  obtain ⟨kb', h1, h2⟩ := outS_next (x := ⟨p, N⟩) (hO.below hBc) ((hN.same hz2 fun k hk => hc.block k (hN.has_lt hk).2).mono (by omega) hz2 (Nat.le_refl _))
    (fun y hy k hk hk2 => by
      have h3 := (hO.ins.has_lt (List.mem_map_of_mem hy) hk).2
      have h4 := (hN.has_lt hk2).1
      omega) (fun hk => by have := (hN.has_lt hk).1; omega) own7 hg7 (hat.imp id fun e => ⟨_, e, Nat.le_refl _⟩)
  refine ⟨v7, _, kb', rfl, by rw [putS, if_neg hx]; exact h1, h2.imp id fun e => by omega, (Only.of_below (hw.trans (hBc.mono hz0))).trans (Only.of_grown hg7 fun k hk => by have := Option.some.inj hk; omega)⟩
set_option maxRecDepth 100000 in
set_option maxHeartbeats 3200000 in
theorem specPut (base : Nat) (bs : List Sb) (v : Value) (ss : List Sp) (kb : Nat) (p : Int) (a b : Option Addr) (ca cb : Nat) (vs zs : List Int) (w : World) (hO : OutS base bs v w ss kb) (hbase : base ≤ w.heap.size) (hlen : ss.length ≤ 16777216) (hl : ∀ x ∈ bs, x.2.1.length ≤ maxLen ∧ x.2.2.length ≤ maxLen)
    (h : HeapAt w a b vs zs) (hna : a = none → ca = 0) (hnb : b = none → cb = 0) (hv : vs.length ≤ 100) (hz : zs.length ≤ 100) :
    Calls Tryz.prog 65 #[v, spC p a vs.length ca b zs.length cb] w (PutEnd base bs (p, vs, zs) kb w) := by
  obtain ⟨i0, hi9, hz0, hz1, hz2⟩ := info_parts stateInfo
  obtain ⟨cv, hcv⟩ := own_some hO.own hO.blk
  subst hcv
  have hkw : kb < w.heap.size := (hO.own.lt kb rfl).2
  have hbox := BoxL.new w [.int .i64 p, .slice a vs.length ca, .slice b zs.length cb] 34
  replace hbox : BoxL (w.alloc (.cells #[.int .i64 p, .slice a vs.length ca, .slice b zs.length cb] 34)) w.heap.size [.int .i64 p, .slice a vs.length ca, .slice b zs.length cb] := hbox
  have hb0 := (Below.refl w.heap.size w).alloc (Nat.le_refl _) (.cells #[.int .i64 p, .slice a vs.length ca, .slice b zs.length cb] 34)
  have hO0 := hO.below hb0
  have hat0 := hO0.at_
  have h0 := h.below hb0 (Nat.le_refl _)
  have hlx : ∀ k (hk : k < ss.length), ss[k].h.vs.length ≤ maxLen ∧ ss[k].h.zs.length ≤ maxLen := fun k hk => by
    have h1 := hl ss[k].body (by rw [← hO.body]; exact List.mem_map_of_mem (List.getElem_mem hk))
    exact h1
  have hbk : ∀ k (hk : k < ss.length), ss[k].body ∈ bs := fun k hk => by rw [← hO.body]; exact List.mem_map_of_mem (List.getElem_mem hk)
  have HBOX := Lib.hid hbox
  have HB0 := Lib.hid hb0
  have HO0 := Lib.hid hO0
  have HAT0 := Lib.hid hat0
  have H0 := Lib.hid h0
  have HLX := Lib.hid hlx
  have HBK := Lib.hid hbk
  have HBS := Lib.hid hO.body
  clear hbox hb0 hO0 hat0 h0 hO h hlx hl hbk
  go_enter Tryz.func65, Tryz.ntmps65
  go_wp2
  obtain ⟨W0, hW0⟩ : ∃ W, w.alloc (.cells #[.int .i64 p, .slice a vs.length ca, .slice b zs.length cb] 34) = W := ⟨_, rfl⟩
  rw [hW0] at HBOX HB0 HO0 HAT0 H0 ⊢
  clear hW0
  have hzW : w.heap.size < W0.heap.size := HBOX.out.lt
  go_loopw [5] (fun i wr => ∃ k : Nat, k ≤ ss.length ∧ i = .int .i64 (k : Int) ∧ (∀ j (hj : j < ss.length), j < k → ss[j].body ≠ (p, (vs, zs))) ∧ Below W0.heap.size W0 wr) (fun i _ => ss.length - (intOf i).toNat)
  case atStart => exact ⟨0, Nat.zero_le _, rfl, fun j _ hj => by omega, Below.refl _ _⟩
  case round =>
    obtain ⟨k, hk, rfl, hne, hbw⟩ := hrel
    by_cases hlt : k < ss.length
    · have hA := fun W hb => (HAT0.out.below (W' := W) hb).item k hlt
      have hlk := HLX.out k hlt
      have hmem := HBK.out k hlt
      have hS : ∀ W, Below W0.heap.size W0 W → (W.cell? ⟨kb, k * 3, none⟩ = some (.int .i64 ss[k].p) ∧ W.cell? ⟨kb, k * 3 + 1, none⟩ = some (.slice ss[k].h.a ss[k].h.vs.length ss[k].h.ca) ∧ W.cell? ⟨kb, k * 3 + 2, none⟩ = some (.slice ss[k].h.b ss[k].h.zs.length ss[k].h.cb)) ∧ (W.cell? ⟨w.heap.size, 0, none⟩ = some (.int .i64 p) ∧ W.cell? ⟨w.heap.size, 1, none⟩ = some (.slice a vs.length ca) ∧ W.cell? ⟨w.heap.size, 2, none⟩ = some (.slice b zs.length cb)) := by
        intro W hb
        obtain ⟨b1, o1, e1, _, p0, p1, p2, _⟩ := hA W hb
        injection e1 with e1
        injection e1 with e1 e1' _
        subst e1 e1'
        rw [Nat.zero_add] at p0 p1 p2
        have hB := HBOX.out.below hb
        exact ⟨⟨p0, p1, p2⟩, hB.c 0 _ rfl, hB.c 1 _ rfl, hB.c 2 _ rfl⟩
      have hR : ∀ W, Below W0.heap.size W0 W → HeapAt W ss[k].h.a ss[k].h.b ss[k].h.vs ss[k].h.zs := fun W hb => by
        obtain ⟨_, _, _, _, _, _, _, q⟩ := hA W hb
        exact q
      have hkey : ss[k].body = (ss[k].p, (ss[k].h.vs, ss[k].h.zs)) := rfl
      have hnx : ss[k].body ≠ (p, (vs, zs)) → ∀ j (hj : j < ss.length), j < k + 1 → ss[j].body ≠ (p, (vs, zs)) := fun hh j hj hjk => by
        rcases Nat.lt_or_ge j k with hq | hq
        · exact hne j hj hq
        · obtain rfl : j = k := by omega
          exact hh
      generalize ss[k] = x at *
      obtain ⟨bb, hbb⟩ : ∃ bb, sameSp x.p p x.h.vs x.h.zs vs zs = bb := ⟨_, rfl⟩
      have HS := Lib.hid hS
      have HR := Lib.hid hR
      have HBB := Lib.hid hbb
      have HNX := Lib.hid hnx
      have hd := Below.drew hbw
      clear hA hS hR hbb hnx hne
      go_wp2_with fail
      go_region_held3 (fun W => (W.cell? ⟨kb, k * 3, none⟩ = some (.int .i64 x.p) ∧ W.cell? ⟨kb, k * 3 + 1, none⟩ = some (.slice x.h.a x.h.vs.length x.h.ca) ∧ W.cell? ⟨kb, k * 3 + 2, none⟩ = some (.slice x.h.b x.h.zs.length x.h.cb)) ∧ (W.cell? ⟨w.heap.size, 0, none⟩ = some (.int .i64 p) ∧ W.cell? ⟨w.heap.size, 1, none⟩ = some (.slice a vs.length ca) ∧ W.cell? ⟨w.heap.size, 2, none⟩ = some (.slice b zs.length cb)))
        (first | with_reducible exact HS.out _ hd | with_reducible exact HS.out _ hB1)
        (first | (go_at_call 20; (with_reducible refine (specEqualState x.p p x.h.a x.h.b a b x.h.ca x.h.cb ca cb x.h.vs x.h.zs vs zs _ hlk.1 hlk.2 (HR.out _ hd) (H0.out.below hd (Nat.le_refl _))).mono ?_); rw [HBB.out]; rintro e w1 ⟨rfl, hb1⟩; have hB1 := hd.trans (hb1.mono hd.size)))
      have HB1 := Lib.hid hB1
      clear hB1 hb1 hd hbw
      cases bb
      case' false =>
        go_wp2
        go_roundw
        case rel => exact ⟨k + 1, by omega, by go_num, HNX.out (fun e => by
          rw [hkey] at e
          have h1 := HBB.out
          rw [sameSp_iff.2 ⟨congrArg Prod.fst e, congrArg (fun z => z.2.1) e, congrArg (fun z => z.2.2) e⟩] at h1
          cases h1), HB1.out⟩
        case measure => simp [intOf]; omega
      case' true =>
        have hx : (p, (vs, zs)) ∈ bs := by
          obtain ⟨e1, e2, e3⟩ := sameSp_iff.1 HBB.out
          rw [← e1, ← e2, ← e3]
          exact hmem
        have HE := Lib.hid (show PutEnd base bs (p, vs, zs) kb w (.returned (.slice (some ⟨kb, 0, none⟩) ss.length cv)) w1 from
          ⟨_, ss, kb, rfl, by rw [putS, if_pos hx]; exact HO0.out.below HB1.out, .inl rfl, Only.of_below (HB0.out.trans (HB1.out.mono (Nat.le_of_lt hzW)))⟩)
        clear hmem hkey hx
        go_wp2
        go_ret
        exact HE.out
    · have hnot : (p, (vs, zs)) ∉ bs := by
        rw [← HBS.out]
        intro hm
        obtain ⟨y, hy, e⟩ := List.mem_map.1 hm
        obtain ⟨j, hj, rfl⟩ := List.getElem_of_mem hy
        exact hne j hj (by omega) e
      have hS : ∀ W, Below W0.heap.size W0 W → W.cell? ⟨w.heap.size, 0, none⟩ = some (.int .i64 p) ∧ W.cell? ⟨w.heap.size, 1, none⟩ = some (.slice a vs.length ca) ∧ W.cell? ⟨w.heap.size, 2, none⟩ = some (.slice b zs.length cb) := fun W hb => by
        have hB := HBOX.out.below hb
        exact ⟨hB.c 0 _ rfl, hB.c 1 _ rfl, hB.c 2 _ rfl⟩
      have HS := Lib.hid hS
      have HN := Lib.hid hnot
      have hd := Below.drew hbw
      have hbW0 : base ≤ W0.heap.size := Nat.le_trans hbase (Nat.le_of_lt hzW)
      clear hS hnot hne
      go_wp2
      go_region_held3 (fun W => W.cell? ⟨w.heap.size, 0, none⟩ = some (.int .i64 p) ∧ W.cell? ⟨w.heap.size, 1, none⟩ = some (.slice a vs.length ca) ∧ W.cell? ⟨w.heap.size, 2, none⟩ = some (.slice b zs.length cb))
        (first | with_reducible exact HS.out _ hd | with_reducible exact HS.out _ hB1 | with_reducible exact hS7 | (exact HS.out _ (by repeat (first | with_reducible exact hB1 | with_reducible refine Below.drew ?_ | with_reducible refine Below.alloc ?_ (Nat.le_trans hB1.size (by simp)) _))))
        (first
          | (go_at_call 57; (with_reducible refine (specCopy a b ca cb vs zs _ hna hnb (H0.out.below hd (Nat.le_refl _)) hv hz).mono ?_); rintro e w1 ⟨a1, c1, b1, d1, rfl, hin1, hb1⟩; have hB1 := hd.trans (hb1.mono hd.size))
          | (refine step_append_row _ rfl (.tmp 19) (.tmp 26) 41 rfl base 34 i0 (.agg #[.int .i64 0, .slice none 0 0, .slice none 0 0]) 3 56 Tryz.underlying41 hi9 hz0 hz1 hz2 rfl (by decide) (.slice (some ⟨kb, 0, none⟩) ss.length cv) ss.length (spVals ss) rfl ?_ (some ⟨_, 0, none⟩) 1 1 [.int .i64 p, .slice a1 vs.length c1, .slice b1 zs.length d1] rfl (fun e => by cases e) rfl ?_ (lit3_one _ _ _ _ _ _ _) (by unfold maxLen; omega) (by omega) ?_ ?_
             · exact (HO0.out.below hB1).own.alloc _
             · intro ad e j u hj
               cases e
               exact lit3_news _ _ _ _ _ j u hj
             · exact Nat.le_trans hbW0 (Nat.le_trans hB1.size (by simp))
             intro v7 w7 own7 hg7 hat7 _
             have hS7 : w7.cell? ⟨w.heap.size, 0, none⟩ = some (.int .i64 p) ∧ w7.cell? ⟨w.heap.size, 1, none⟩ = some (.slice a vs.length ca) ∧ w7.cell? ⟨w.heap.size, 2, none⟩ = some (.slice b zs.length cb) := by
               have hB8 := (HBOX.out.below hB1).below ((Below.refl w1.heap.size w1).alloc (Nat.le_refl _) (.cells #[.int .i64 p, .slice a1 vs.length c1, .slice b1 zs.length d1] 34))
               have hq := hg7.block w.heap.size hB8.lt (fun e => by have h1 : w.heap.size = kb := Option.some.inj e; omega)
               exact ⟨(World.cell?_of_block hq).trans (hB8.c 0 _ rfl), (World.cell?_of_block hq).trans (hB8.c 1 _ rfl), (World.cell?_of_block hq).trans (hB8.c 2 _ rfl)⟩))
      have hN : Hp.In wr.drew.heap.size w1.heap.size w1 ⟨a1, c1, b1, d1, vs, zs⟩ := hin1
      have HE := Lib.hid (put_done HO0.out HB0.out hB1 hN hd.size hbW0 (Nat.lt_trans hkw hzW) ((Below.refl w1.heap.size w1).alloc (Nat.le_refl _) _) own7 hg7 hat7 HN.out)
      clear hN own7 hg7 hat7 hB1 hin1 hb1 hd
      go_wp2
      go_ret
      exact HE.out
end Go.Proofs.YtpmmjaceehlpiaaGreatDoor
