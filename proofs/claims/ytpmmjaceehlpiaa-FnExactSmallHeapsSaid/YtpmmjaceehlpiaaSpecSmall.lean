/-
  The model's small heaps.
-/
import Derived.Test.YtpmmjaceehlpiaaLists
import Derived.Test.YtpmmjaceehlpiaaHeapLists
import Derived.Test.YtpmmjaceehlpiaaSpecIsHeap
import Derived.Test.YtpmmjaceehlpiaaSpecCopy
namespace Go.Proofs.Ytpmmjaceehlpiaa
open Go Go.RowKit Go.ChangeShapes Go.WideShapes Go.ChangeAt

theorem lit2_news (w : World) (u v : Value) (t : TypeId) : ∀ j x, [u, v][j]? = some x → (w.alloc (.cells #[u, v] t)).cell? ((⟨w.heap.size, 0, none⟩ : Addr).add j) = some x := by
  intro j x hj
  have := (BoxL.new w [u, v] t).c j x hj
  rw [add_plain, Nat.zero_add]
  exact this
theorem lit2_one (a : Option Addr) (n c : Nat) (b : Option Addr) (m d : Nat) : ∀ u ∈ [Value.slice a n c, Value.slice b m d], u.oneCell' = true := by
  intro u hu
  simp only [List.mem_cons, List.not_mem_nil, or_false] at hu
  rcases hu with rfl | rfl <;> rfl
/-- The heaps with these variables and one of these lists of next cells. -/
def pairsS (v : Int) (hd : List Int) (nx : List (List Int)) : List (List Int × List Int) := nx.flatMap fun z => if heapB v hd z = true then [(hd, z)] else []
def blockS (v : Nat) (n : Nat) : List (List Int × List Int) := (listsS (n + 1) v).flatMap fun hd => pairsS (v : Int) hd (listsS (n + 1) n)
def smallS (v c : Int) : List (List Int × List Int) := if (1 ≤ v ∧ v ≤ 4) ∧ (0 ≤ c ∧ c ≤ 3) then (List.range (c.toNat + 1)).flatMap (blockS v.toNat) else []
theorem flat_next {α β : Type} (f : α → List β) (l : List α) (k : Nat) (h : k < l.length) : (l.take (k + 1)).flatMap f = (l.take k).flatMap f ++ f l[k] := by
  rw [take_next l k h, List.flatMap_append]
  simp

/-- What has been collected. -/
structure OutB (w : World) (bs : List (List Int × List Int)) (v : Value) (wr : World) (hs : List Hp) (kb : Nat) : Prop where
  body : hs.map Hp.body = bs
  own : wr.ownsRow w.heap.size 34 2 v hs.length (hpVals hs)
  ins : HeapsIn w.heap.size wr hs
  off : ∀ x ∈ hs, ¬ x.has kb
  blk : v.ownBlock = some kb
theorem OutB.below {w wr wr' : World} {bs : List (List Int × List Int)} {v : Value} {hs : List Hp} {kb : Nat} (h : OutB w bs v wr hs kb) (hb : Below wr.heap.size wr wr') : OutB w bs v wr' hs kb :=
  ⟨h.body, own_keeps h.own hb, h.ins.below hb, h.off, h.blk⟩
/-- .. since w1, when it lay in block k0. -/
def OutH (w w1 : World) (k0 : Nat) (bs : List (List Int × List Int)) (v : Value) (wr : World) : Prop :=
  ∃ hs kb, OutB w bs v wr hs kb ∧ (kb = k0 ∨ w1.heap.size ≤ kb) ∧ Only (fun k => k = k0) w1 wr
theorem OutH.below {w w1 wr wr' : World} {k0 : Nat} {bs : List (List Int × List Int)} {v : Value} (h : OutH w w1 k0 bs v wr) (hb : Below wr.heap.size wr wr') : OutH w w1 k0 bs v wr' := by
  obtain ⟨hs, kb, h1, h2, h3⟩ := h
  exact ⟨hs, kb, h1.below hb, h2, h3.trans (Only.of_below hb)⟩
/-- One heap more: x is made between wr and wc; the append turns wc to w'. -/
theorem outH_next {w w1 wc w' : World} {k0 kb : Nat} {bs : List (List Int × List Int)} {v v' : Value} {hs : List Hp} {x : Hp} (h : OutB w bs v wc hs kb) (h2 : kb = k0 ∨ w1.heap.size ≤ kb) (h3 : Only (fun k => k = k0) w1 wc)
    (hx : x.In w.heap.size wc.heap.size wc) (hn : ∀ y ∈ hs, ∀ k, y.has k → ¬ x.has k) (hxk : ¬ x.has kb)
    (hown : w'.ownsRow w.heap.size 34 2 v' (hs.length + 1) (hpVals hs ++ hpCells x)) (hg : wc.grownBy w' (some kb)) (hl : v'.ownBlock = some kb ∨ ∃ k, v'.ownBlock = some k ∧ wc.heap.size ≤ k) :
    OutH w w1 k0 (bs ++ [x.body]) v' w' := by
  have hin : HeapsIn w.heap.size wc (hs ++ [x]) := h.ins.snoc hx hn
  have hoff : ∀ y ∈ hs ++ [x], ¬ y.has kb := fun y hy => by
    rcases List.mem_append.1 hy with hy | hy
    · exact h.off y hy
    · rw [List.mem_singleton.1 hy]
      exact hxk
  have hin' : HeapsIn w.heap.size w' (hs ++ [x]) := hin.same hg.size fun y hy k hk => hg.block k (hin.has_lt hy hk).2 fun e => hoff y hy ((Option.some.inj e) ▸ hk)
  have hon : Only (fun k => k = k0) w1 w' := ⟨hg.os.trans h3.os, hg.tape.trans h3.tape, hg.output.trans h3.output, Nat.le_trans h3.size hg.size, fun q hq hqn => (hg.block q (Nat.lt_of_lt_of_le hq h3.size) fun e => by
    have := Option.some.inj e
    rcases h2 with h2 | h2
    · exact hqn (by omega)
    · omega).trans (h3.block q hq hqn)⟩
  have hbody : (hs ++ [x]).map Hp.body = bs ++ [x.body] := by rw [List.map_append, h.body]; rfl
  have hown' : w'.ownsRow w.heap.size 34 2 v' (hs ++ [x]).length (hpVals (hs ++ [x])) := by
    rw [List.length_append, show hpVals (hs ++ [x]) = hpVals hs ++ hpCells x from fl_snoc hs x]
    exact hown
  rcases hl with hl | ⟨k, hl, hk⟩
  · exact ⟨hs ++ [x], kb, ⟨hbody, hown', hin', hoff, hl⟩, h2, hon⟩
  · refine ⟨hs ++ [x], k, ⟨hbody, hown', hin', fun y hy hyk => ?_, hl⟩, .inr (Nat.le_trans h3.size hk), hon⟩
    have := (hin.has_lt hy hyk).2
    omega
def GaveHeaps (bs : List (List Int × List Int)) (w : World) (e : Ending) (w' : World) : Prop :=
  ∃ (g cap : Nat) (hs : List Hp), hs.map Hp.body = bs ∧ e = .returned (.slice (some ⟨g, 0, none⟩) hs.length cap) ∧ w'.ownsRow w.heap.size 34 2 (.slice (some ⟨g, 0, none⟩) hs.length cap) hs.length (hpVals hs) ∧ HeapsIn w.heap.size w' hs ∧ (∀ x ∈ hs, ¬ x.has g) ∧ Below w.heap.size w w'
theorem gave_out {w wr : World} {bs : List (List Int × List Int)} {v : Value} {hs : List Hp} {kb : Nat} (h : OutB w bs v wr hs kb) (hb : Below w.heap.size w wr) : GaveHeaps bs w (.returned v) wr := by
  obtain ⟨g, hv⟩ : ∃ c, v = .slice (some ⟨kb, 0, none⟩) hs.length c := own_some h.own h.blk
  subst hv
  exact ⟨kb, g, hs, h.body, rfl, h.own, h.ins, h.off, hb⟩
theorem pairsS_len (v : Int) (hd : List Int) (nx : List (List Int)) : (pairsS v hd nx).length ≤ nx.length := by
  induction nx with
  | nil => simp [pairsS]
  | cons z nx ih =>
    have h1 : pairsS v hd (z :: nx) = (if heapB v hd z = true then [(hd, z)] else []) ++ pairsS v hd nx := rfl
    rw [h1, List.length_append, List.length_cons]
    split <;> simp <;> omega
theorem flat_len {α β : Type} (f : α → List β) (l : List α) (B : Nat) (h : ∀ x ∈ l, (f x).length ≤ B) : (l.flatMap f).length ≤ l.length * B := by
  induction l with
  | nil => simp
  | cons x l ih =>
    have h1 := h x List.mem_cons_self
    have h2 := ih fun y hy => h y (List.mem_cons_of_mem _ hy)
    rw [List.flatMap_cons, List.length_append, List.length_cons, Nat.add_mul, Nat.one_mul]
    omega
theorem ListsAt.mono {lo lo' : Nat} {W : World} {g : Nat} {ls : List Lp} (h : ListsAt lo W g ls) (hl : lo' ≤ lo) : ListsAt lo' W g ls := ⟨h.row, fun x hx => (h.each x hx).mono hl, Nat.le_trans hl h.lo, h.lt⟩
theorem small_len {v c n i k : Nat} (hv : v ≤ 4) (hc : c ≤ 3) (hn : n ≤ c) (hd : List Int) :
    ((List.range n).flatMap (blockS v) ++ ((listsS (n + 1) v).take i).flatMap (fun hd => pairsS (v : Int) hd (listsS (n + 1) n)) ++ pairsS (v : Int) hd ((listsS (n + 1) n).take k)).length ≤ 400000 := by
  have hb : ∀ m, m < n → (blockS v m).length ≤ 65536 := fun m hm => by
    have h1 := listsS_le (m := m + 1) (n := v) (by omega) hv
    have h2 := listsS_le (m := m + 1) (n := m) (by omega) (by omega)
    exact Nat.le_trans (flat_len _ _ 256 fun hd _ => Nat.le_trans (pairsS_len _ _ _) h2) (by omega)
  have h1 := listsS_le (m := n + 1) (n := v) (by omega) hv
  have h2 := listsS_le (m := n + 1) (n := n) (by omega) (by omega)
  have p1 := flat_len (blockS v) (List.range n) 65536 (fun m hm => hb m (List.mem_range.1 hm))
  have p2 := flat_len (fun hd => pairsS (v : Int) hd (listsS (n + 1) n)) ((listsS (n + 1) v).take i) 256 (fun hd _ => Nat.le_trans (pairsS_len _ _ _) h2)
  have p3 := pairsS_len (v : Int) hd ((listsS (n + 1) n).take k)
  rw [List.length_range] at p1
  rw [List.length_take] at p2 p3
  rw [List.length_append, List.length_append]
  have h3 : min i (listsS (n + 1) v).length * 256 ≤ 65536 := by
    have : min i (listsS (n + 1) v).length ≤ 256 := Nat.le_trans (Nat.min_le_right _ _) h1
    omega
  omega
theorem outH_start {w w1 wr : World} {k0 : Nat} {bs : List (List Int × List Int)} {v : Value} (h : OutH w w1 k0 bs v wr) : OutH w w1 k0 (bs ++ []) v wr := by simpa using h
set_option maxRecDepth 100000 in
set_option maxHeartbeats 3200000 in
theorem specSmall_good (v c : Nat) (hv : 1 ≤ v ∧ v ≤ 4) (hc : c ≤ 3) (w : World) : Calls Try.prog 5 #[.int .i64 (v : Int), .int .i64 (c : Int)] w (GaveHeaps ((List.range (c + 1)).flatMap (blockS v)) w) := by
  obtain ⟨i0, hi9, hz0, hz1, hz2⟩ := info_parts heapInfo
  have ho0 := World.ownsRow_made (e := 34) (size := 2) (base := w.heap.size) w #[] 0 (Nat.le_refl _) (Nat.zero_le _) rfl
  have hb0 := (Below.refl w.heap.size w).alloc (Nat.le_refl _) (.cells #[] 34)
  have hO0 : OutB w ((List.range 0).flatMap (blockS v)) (.slice (some ⟨w.heap.size, 0, none⟩) 0 0) (w.alloc (.cells #[] 34)) [] w.heap.size := ⟨rfl, ho0, HeapsIn.nil, fun x hx => by simp at hx, rfl⟩
  clear ho0
  have q1 : (decide ((1 : Int) ≤ (v : Int)) && decide ((v : Int) ≤ 4)) = true := by simp; omega
  have q2 : (decide ((0 : Int) ≤ (c : Int)) && decide ((c : Int) ≤ 3)) = true := by simp; omega
  have Q1 := Lib.hid q1
  have Q2 := Lib.hid q2
  have HO0 := Lib.hid hO0
  have HB0 := Lib.hid hb0
  clear q1 q2 hO0 hb0
  obtain ⟨big, hbig⟩ : ∃ big, (List.range (c + 1)).flatMap (blockS v) = big := ⟨_, rfl⟩
  rw [hbig]
  have HBIG := Lib.hid hbig
  clear hbig
  go_enter Try.func5, Try.ntmps5
  go_wp2_with fail
  refine (specIn (v : Int) 1 4 _).mono ?_
  rw [Q1.out]
  rintro e w1 ⟨rfl, rfl⟩
  go_wp2_with fail
  refine (specIn (c : Int) 0 3 _).mono ?_
  rw [Q2.out]
  rintro e w1 ⟨rfl, rfl⟩
  go_wp2
  go_loopw [5, 6] (fun u i wr => ∃ (n : Nat) (hs : List Hp) (kb : Nat), n ≤ c + 1 ∧ i = .int .i64 (n : Int) ∧ OutB w ((List.range n).flatMap (blockS v)) u wr hs kb ∧ Below w.heap.size w wr) (fun _ i _ => (c + 1 - (intOf i).toNat))
  case atStart => exact ⟨0, [], _, Nat.zero_le _, rfl, HO0.out, HB0.out⟩
  case round =>
    obtain ⟨n, hs, kb, hn, rfl, hO, hB⟩ := hrel
    by_cases hlt : n ≤ c
    · have hO' := hO
      have hkl : kb < wr.heap.size := (hO.own.lt kb hO.blk).2
      have HO := Lib.hid hO
      have HB := Lib.hid hB
      clear hO hO' hB
      go_wp2_with fail
      refine (specLists (n + 1) (by omega) ((n : Int) - 1) (by omega) v hv.2 _).mono ?_
      rintro e w1 ⟨g1, cap1, ls1, hb1, rfl, hat1, hB1⟩
      have HAT1 := Lib.hid hat1
      have HB1 := Lib.hid hB1
      have HL1 := Lib.hid hb1
      clear hat1 hB1 hb1
      go_wp2_with fail
      refine (specLists (n + 1) (by omega) ((n : Int) - 1) (by omega) n (by omega) _).mono ?_
      rintro e w2 ⟨g2, cap2, ls2, hb2, rfl, hat2, hB2⟩
      have hB0 : wr.heap.size ≤ w1.heap.size := HB1.out.size
      have hz12 : w1.heap.size ≤ w2.heap.size := hB2.size
      have hOH : OutH w w2 kb ((List.range n).flatMap (blockS v)) _ w2 := ⟨hs, kb, (HO.out.below HB1.out).below hB2, .inl rfl, Only.refl⟩
      have hBw : Below w.heap.size w w2 := (HB.out.trans (HB1.out.mono HB.out.size)).trans (hB2.mono (Nat.le_trans HB.out.size hB0))
      have hkw : w.heap.size ≤ kb := (HO.out.own.lt kb HO.out.blk).1
      have hA1 : ListsAt wr.heap.size w2 g1 ls1 := HAT1.out.keep hB2.size (fun k _ h => hB2.block k h)
      have hA2 : ListsAt wr.heap.size w2 g2 ls2 := hat2.mono hB0
      have KEY := Lib.hid (show ∀ W, Only (fun k => k = kb) w2 W → ListsAt wr.heap.size W g1 ls1 ∧ ListsAt wr.heap.size W g2 ls2 from fun W h =>
        ⟨hA1.keep h.size fun k h1 h2 => h.block k h2 (by omega), hA2.keep h.size fun k h1 h2 => h.block k h2 (by omega)⟩)
      have hl1 : ls1.length = (listsS (n + 1) v).length := by rw [← HL1.out]; simp
      have hl2 : ls2.length = (listsS (n + 1) n).length := by rw [← hb2]; simp
      have hle1 := listsS_le (m := n + 1) (n := v) (by omega) hv.2
      have hle2 := listsS_le (m := n + 1) (n := n) (by omega) (by omega)
      have HBW := Lib.hid hBw
      have HL2 := Lib.hid hb2
      have HOH := Lib.hid hOH
      clear hA1 hA2 hat2 hBw hb2 hOH hB2 HAT1 HB1 HO HB
      go_wp2
      go_loopw [5, 9] (fun u i wq => ∃ (j : Nat), j ≤ ls1.length ∧ i = .int .i64 (j : Int) ∧ OutH w w2 kb ((List.range n).flatMap (blockS v) ++ ((listsS (n + 1) v).take j).flatMap (fun hd => pairsS (v : Int) hd (listsS (n + 1) n))) u wq) (fun _ i _ => (ls1.length - (intOf i).toNat))
      case atStart => exact ⟨0, Nat.zero_le _, rfl, outH_start HOH.out⟩
      case round =>
        obtain ⟨j, hj, rfl, hO⟩ := hrel
        by_cases hlj : j < ls1.length
        · have hlj' : j < (listsS (n + 1) v).length := by omega
          have HOJ := Lib.hid hO
          clear hO
          go_wp2
          go_loopw [5, 10] (fun u i wq => ∃ (k : Nat), k ≤ ls2.length ∧ i = .int .i64 (k : Int) ∧ OutH w w2 kb ((List.range n).flatMap (blockS v) ++ ((listsS (n + 1) v).take j).flatMap (fun hd => pairsS (v : Int) hd (listsS (n + 1) n)) ++ pairsS (v : Int) (listsS (n + 1) v)[j] ((listsS (n + 1) n).take k)) u wq) (fun _ i _ => (ls2.length - (intOf i).toNat))
          case atStart => exact ⟨0, Nat.zero_le _, rfl, outH_start HOJ.out⟩
          case round =>
            obtain ⟨k, hk, rfl, hO⟩ := hrel
            by_cases hlk : k < ls2.length
            · have hlk' : k < (listsS (n + 1) n).length := by omega
              obtain ⟨hs', kb', hO1, hO2, hO3⟩ := hO
              obtain ⟨hK1, hK2⟩ := KEY.out _ hO3
              obtain ⟨c0, hX⟩ := hK1.item j hlj
              obtain ⟨c1, hY⟩ := hK2.item k hlk
              have hxs : ls1[j].xs = (listsS (n + 1) v)[j] := by
                have h1 : (ls1.map Lp.xs)[j]? = (listsS (n + 1) v)[j]? := by rw [HL1.out]
                simpa [hlj, hlj'] using h1
              have hys : ls2[k].xs = (listsS (n + 1) n)[k] := by
                have h1 : (ls2.map Lp.xs)[k]? = (listsS (n + 1) n)[k]? := by rw [HL2.out]
                simpa [hlk, hlk'] using h1
              have hxl : ls1[j].xs.length = v := by rw [hxs]; exact listsS_each (List.getElem_mem hlj')
              have hyl : ls2[k].xs.length = n := by rw [hys]; exact listsS_each (List.getElem_mem hlk')
              have hlen := small_len (n := n) (i := j) (k := k) hv.2 hc hlt (listsS (n + 1) v)[j]
              have hnext : pairsS (v : Int) (listsS (n + 1) v)[j] ((listsS (n + 1) n).take (k + 1)) = pairsS (v : Int) (listsS (n + 1) v)[j] ((listsS (n + 1) n).take k) ++ (if heapB (v : Int) ls1[j].xs ls2[k].xs = true then [(ls1[j].xs, ls2[k].xs)] else []) := by
                rw [hxs, hys]
                exact flat_next _ _ k hlk'
              obtain ⟨cv, hcv⟩ := own_some hO1.own hO1.blk
              subst hcv
              have hsl := congrArg List.length hO1.body
              rw [List.length_map] at hsl
              rw [← hsl] at hlen
              have hat : HeapAt wr (some ⟨ls1[j].g, 0, none⟩) (some ⟨ls2[k].g, 0, none⟩) ls1[j].xs ls2[k].xs := ⟨hX.row, hY.row⟩
              have hgl1 := hK1.lt
              have hgl2 := hK2.lt
              generalize ls1[j] = x at *
              generalize ls2[k] = y at *
              have HAT := Lib.hid hat
              have HO1 := Lib.hid hO1
              have HO3 := Lib.hid hO3
              have HNX := Lib.hid hnext
              have HXL := Lib.hid hxl
              have HYL := Lib.hid hyl
              have hkk : kb' < wr.heap.size := (HO1.out.own.lt kb' HO1.out.blk).2
              clear hxl hyl hK1 hK2 hX hY hsl hnext hat hO1 hO3 hxs hys
              go_wp2
              go_region
              go_wp2_with fail
              have hbd : Below wr.heap.size wr (wr.alloc (.cells #[.slice (some ⟨x.g, 0, none⟩) x.xs.length x.c, .slice (some ⟨y.g, 0, none⟩) y.xs.length y.c] 34)).drew := Below.drew ((Below.refl _ _).alloc (Nat.le_refl _) _)
              have hbox := (BoxL.new wr [.slice (some ⟨x.g, 0, none⟩) x.xs.length x.c, .slice (some ⟨y.g, 0, none⟩) y.xs.length y.c] 34).below (Below.drew (Below.refl _ _))
              replace hbox : BoxL (wr.alloc (.cells #[.slice (some ⟨x.g, 0, none⟩) x.xs.length x.c, .slice (some ⟨y.g, 0, none⟩) y.xs.length y.c] 34)).drew wr.heap.size [.slice (some ⟨x.g, 0, none⟩) x.xs.length x.c, .slice (some ⟨y.g, 0, none⟩) y.xs.length y.c] := hbox
              have hzd : wr.heap.size < (wr.alloc (.cells #[.slice (some ⟨x.g, 0, none⟩) x.xs.length x.c, .slice (some ⟨y.g, 0, none⟩) y.xs.length y.c] 34)).drew.heap.size := hbox.lt
              obtain ⟨WD, hWD⟩ : ∃ W, (wr.alloc (.cells #[.slice (some ⟨x.g, 0, none⟩) x.xs.length x.c, .slice (some ⟨y.g, 0, none⟩) y.xs.length y.c] 34)).drew = W := ⟨_, rfl⟩
              rw [hWD] at hbd hbox hzd ⊢
              clear hWD
              have hmx : x.xs.length ≤ maxLen := by have := HXL.out; unfold maxLen; omega
              have hmy : y.xs.length ≤ maxLen := by have := HYL.out; unfold maxLen; omega
              refine (specIsHeap (v : Int) (some ⟨x.g, 0, none⟩) (some ⟨y.g, 0, none⟩) x.c y.c x.xs y.xs _ hmx hmy (HAT.out.below hbd (Nat.le_refl _))).mono ?_
              rintro e w5 ⟨rfl, hb5⟩
              have hbd5 := hbd.trans (hb5.mono hbd.size)
              have hbox5 := hbox.below hb5
              have u0 := hbox5.c 0 _ rfl
              have u1 := hbox5.c 1 _ rfl
              have hO5 : OutB w _ _ w5 hs' kb' := HO1.out.below hbd5
              have hO53 := HO3.out.trans (Only.of_below hbd5)
              have HO5 := Lib.hid hO5
              have HO53 := Lib.hid hO53
              have HAT5 := Lib.hid (HAT.out.below hbd5 (Nat.le_refl _))
              have hz5 := hbox5.lt
              clear hbd hbox hzd hb5 hbd5 hbox5 hO5 hO53
              cases hp : heapB (v : Int) x.xs y.xs
              case' false =>
                rw [hp] at HNX
                have HE := Lib.hid (show OutH w w2 kb ((List.range n).flatMap (blockS v) ++ ((listsS (n + 1) v).take j).flatMap (fun hd => pairsS (v : Int) hd (listsS (n + 1) n)) ++ pairsS (v : Int) (listsS (n + 1) v)[j] ((listsS (n + 1) n).take (k + 1))) _ w5 by
                  rw [HNX.out, if_neg (by decide), List.append_nil]
                  exact ⟨hs', kb', HO5.out, hO2, HO53.out⟩)
                clear u0 u1
                go_wp2
                go_roundw
                case rel => exact ⟨k + 1, by omega, by go_num, HE.out⟩
                case measure => simp [intOf]; omega
              case' true =>
                rw [hp] at HNX
                go_wp2_with fail
                refine (specCopy (some ⟨x.g, 0, none⟩) (some ⟨y.g, 0, none⟩) x.c y.c x.xs y.xs _ (fun e => by cases e) (fun e => by cases e) HAT5.out (by have := HXL.out; omega) (by have := HYL.out; omega)).mono ?_
                rintro e w6 ⟨a6, c6, b6, d6, rfl, hin6, hb6⟩
                have HIN6 := Lib.hid hin6
                have HB6 := Lib.hid hb6
                have HO6 := Lib.hid (own_keeps HO5.out.own hb6)
                have hz6 := hb6.size
                have hw6 : w.heap.size ≤ w6.heap.size := by omega
                clear hin6 hb6 u0 u1
                go_wp2_with (first
                  | (at_builtin; refine wpList_append_own_at _ rfl (.tmp 59) (.tmp 62) 22 rfl w.heap.size 34 i0 (.agg #[.slice none 0 0, .slice none 0 0]) 2 48 Try.underlying22 hi9 hz0 hz1 hz2 rfl (by decide) _ hs'.length (hpVals hs') rfl (HO6.out.alloc _) ⟨w6.heap.size, 0, none⟩ 1 1 [.slice a6 x.xs.length c6, .slice b6 y.xs.length d6] rfl rfl ?_ ?_ ?_ ?_ ?_ ?_; (focus exact lit2_news _ _ _ _); (focus exact lit2_one _ _ _ _ _ _); (focus (unfold maxLen; omega)); (focus omega); (focus (simp; omega)); intro v7 w7 hown7 hg7 _ hloc7; have HO7 := Lib.hid hown7; have HG7 := Lib.hid hg7; have HL7 := Lib.hid hloc7; clear hown7 hg7 hloc7)
                  | fail)
                go_roundw
                case rel =>
                  have hg7 : (w6.alloc (.cells #[.slice a6 x.xs.length c6, .slice b6 y.xs.length d6] 34)).grownBy w7 (some kb') := HG7.out
                  have hl7 : v7.ownBlock = some kb' ∨ v7.ownBlock = some (w6.alloc (.cells #[.slice a6 x.xs.length c6, .slice b6 y.xs.length d6] 34)).heap.size := HL7.out
                  have ha := (Below.refl w6.heap.size w6).alloc (Nat.le_refl _) (.cells #[.slice a6 x.xs.length c6, .slice b6 y.xs.length d6] 34)
                  have hN : Hp.In w5.heap.size w6.heap.size w6 ⟨a6, c6, b6, d6, x.xs, y.xs⟩ := HIN6.out
                  have hN' : Hp.In w.heap.size (w6.alloc (.cells #[.slice a6 x.xs.length c6, .slice b6 y.xs.length d6] 34)).heap.size (w6.alloc (.cells #[.slice a6 x.xs.length c6, .slice b6 y.xs.length d6] 34)) ⟨a6, c6, b6, d6, x.xs, y.xs⟩ :=
                    (hN.same ha.size (fun q hq => ha.block q (hN.has_lt hq).2)).mono (by omega) ha.size (Nat.le_refl _)
                  have h7 := outH_next (x := ⟨a6, c6, b6, d6, x.xs, y.xs⟩) ((HO5.out.below HB6.out).below ha) hO2 ((HO53.out.trans (Only.of_below HB6.out)).trans (Only.of_below ha)) hN'
                    (fun z hz q hq hq2 => by have := (HO5.out.ins.has_lt hz hq).2; have := (hN.has_lt hq2).1; omega) (fun hq => by have := (hN.has_lt hq).1; omega) HO7.out hg7 (hl7.imp id fun e => ⟨_, e, Nat.le_refl _⟩)
                  refine ⟨k + 1, by omega, by go_num, ?_⟩
                  rw [HNX.out, if_pos (by trivial), ← List.append_assoc]
                  exact h7
                case measure => simp [intOf]; omega
            · have hke : k = (listsS (n + 1) n).length := by omega
              have HN : Hid (OutH w w2 kb ((List.range n).flatMap (blockS v) ++ ((listsS (n + 1) v).take (j + 1)).flatMap (fun hd => pairsS (v : Int) hd (listsS (n + 1) n))) _ _) := Lib.hid (by
                rw [hke, List.take_length, List.append_assoc, ← flat_next (fun hd => pairsS (v : Int) hd (listsS (n + 1) n)) _ j hlj'] at hO
                exact hO)
              clear hO
              go_wp2
              go_roundw
              case rel => exact ⟨j + 1, by omega, by go_num, HN.out⟩
              case measure => simp [intOf]; omega
        · have hje : j = (listsS (n + 1) v).length := by omega
          obtain ⟨hs', kb', hO1, hO2, hO3⟩ := hO
          rw [hje, List.take_length] at hO1
          have hbd : (List.range n).flatMap (blockS v) ++ (listsS (n + 1) v).flatMap (fun hd => pairsS (v : Int) hd (listsS (n + 1) n)) = (List.range (n + 1)).flatMap (blockS v) := by
            rw [List.range_succ, List.flatMap_append]
            simp [blockS]
          rw [hbd] at hO1
          have hBn := hO3.below HBW.out HBW.out.size (fun k hk => by omega)
          have HO1 := Lib.hid hO1
          have HBN := Lib.hid hBn
          clear hO1 hO2 hO3 hbd hBn
          go_wp2
          go_roundw
          case rel => exact ⟨n + 1, hs', kb', by omega, by go_num, HO1.out, HBN.out⟩
          case measure => simp [intOf]; omega
    · have hne : n = c + 1 := by omega
      subst hne
      have hgt : ¬ (((c + 1 : Nat) : Int) ≤ (c : Int)) := by omega
      rw [HBIG.out] at hO
      have HE := Lib.hid (gave_out hO hB)
      clear hO hB
      go_wp2
      go_ret
      exact HE.out
theorem specSmall (v c : Int) (w : World) : Calls Try.prog 5 #[.int .i64 v, .int .i64 c] w (GaveHeaps (smallS v c) w) := by
  by_cases hg : (1 ≤ v ∧ v ≤ 4) ∧ (0 ≤ c ∧ c ≤ 3)
  · obtain ⟨m, rfl⟩ : ∃ m : Nat, v = (m : Int) := ⟨v.toNat, by omega⟩
    obtain ⟨d, rfl⟩ : ∃ d : Nat, c = (d : Int) := ⟨c.toNat, by omega⟩
    have := specSmall_good m d (by omega) (by omega) w
    rw [smallS, if_pos hg]
    simpa using this
  · rw [smallS, if_neg hg]
    have ho0 := World.ownsRow_made (e := 34) (size := 2) (base := w.heap.size) w #[] 0 (Nat.le_refl _) (Nat.zero_le _) rfl
    have HE := Lib.hid (show GaveHeaps [] w (.returned (.slice (some ⟨w.heap.size, 0, none⟩) 0 0)) (w.alloc (.cells #[] 34)) from
      ⟨_, 0, [], rfl, rfl, ho0, HeapsIn.nil, fun x hx => by simp at hx, (Below.refl _ _).alloc (Nat.le_refl _) _⟩)
    clear ho0
    by_cases h1 : 1 ≤ v ∧ v ≤ 4
    · have q1 : (decide ((1 : Int) ≤ v) && decide (v ≤ 4)) = true := by simp; omega
      have q2 : (decide ((0 : Int) ≤ c) && decide (c ≤ 3)) = false := by
        rw [Bool.and_eq_false_iff]
        simp only [decide_eq_false_iff_not]
        omega
      have Q1 := Lib.hid q1
      have Q2 := Lib.hid q2
      clear q1 q2 hg h1
      go_enter Try.func5, Try.ntmps5
      go_wp2_with fail
      refine (specIn v 1 4 _).mono ?_
      rw [Q1.out]
      rintro e w1 ⟨rfl, rfl⟩
      go_wp2_with fail
      refine (specIn c 0 3 _).mono ?_
      rw [Q2.out]
      rintro e w1 ⟨rfl, rfl⟩
      go_wp2
      go_ret
      exact HE.out
    · have q1 : (decide ((1 : Int) ≤ v) && decide (v ≤ 4)) = false := by
        rw [Bool.and_eq_false_iff]
        simp only [decide_eq_false_iff_not]
        omega
      have Q1 := Lib.hid q1
      clear q1 hg h1
      go_enter Try.func5, Try.ntmps5
      go_wp2_with fail
      refine (specIn v 1 4 _).mono ?_
      rw [Q1.out]
      rintro e w1 ⟨rfl, rfl⟩
      go_wp2
      go_ret
      exact HE.out
end Go.Proofs.Ytpmmjaceehlpiaa
