/-
  The walk of the law FnRuns.
-/
import Derived.ChangeMaps5
import Derived.Deep.RegionHeld3
import Derived.Test.YtpmmjaceehlpiaaGreatDoorR28
import Derived.Test.YtpmmjaceehlpiaaGreatDoorR27
import Derived.Test.YtpmmjaceehlpiaaGreatDoorR26
import Derived.Test.YtpmmjaceehlpiaaGreatDoorR25
import Derived.Test.YtpmmjaceehlpiaaGreatDoorR22
import Derived.Test.YtpmmjaceehlpiaaGreatDoorR19
import Derived.Test.YtpmmjaceehlpiaaGreatDoorR20
namespace Go.Proofs.YtpmmjaceehlpiaaGreatDoor.runsLaw
open Go Go.RowKit Go.ChangeShapes Go.WideShapes Go.ChangeAt

/-- The law said true, and nothing old has turned. -/
def TrueEnd (w : World) (e : Ending) (w' : World) : Prop := e = .returned (.bool true) ∧ Below w.heap.size w w'
theorem followS_lens (ss : List ByteArray) (es : List Ed) : ∀ (l : List Int) (st : Sb) (k : Int), st.2.1.length ≤ 4 ∧ st.2.2.length ≤ 6 → (followS ss es st k l).1.2.1.length ≤ 4 ∧ (followS ss es st k l).1.2.2.length ≤ 6
  | [], st, k, h => h
  | e :: r, st, k, h => by
    rw [followS]
    split
    · split
      · rename_i h0
        refine followS_lens ss es r _ _ ?_
        obtain ⟨c, us, ys, hE⟩ : ∃ c us ys, execS ss (edgeAt es e).k (edgeAt es e).a (edgeAt es e).b st.2.1 st.2.2 = (c, us, ys) := ⟨_, _, _, rfl⟩
        rw [hE] at h0 ⊢
        have hc : c = 0 := h0
        subst hc
        have hH := heapB_parts (exec_heap hE)
        constructor
        · show us.length ≤ 4
          omega
        · show ys.length ≤ 6
          omega
      · exact h
    · exact h
theorem follow0_lens (ss : List ByteArray) (n : Int) (es : List Ed) (vs zs edges : List Int) : (follow0 ss n es vs zs edges).1.2.1.length ≤ 4 ∧ (follow0 ss n es vs zs edges).1.2.2.length ≤ 6 := by
  rw [follow0]
  split
  · rename_i h
    have hH := heapB_parts h.2
    refine followS_lens ss es edges _ _ ⟨?_, ?_⟩
    · show vs.length ≤ 4
      omega
    · show zs.length ≤ 6
      omega
  · simp
theorem new_box (w : World) (xs : List Value) (t : TypeId) : ∃ W, w.alloc (.cells xs.toArray t) = W ∧ BoxL W w.heap.size xs ∧ Below w.heap.size w W ∧ w.heap.size < W.heap.size :=
  ⟨_, rfl, BoxL.new w xs t, (Below.refl _ _).alloc (Nat.le_refl _) _, by simp⟩
theorem start_heapy {n : Int} : ∀ (hs : List (List Int × List Int)) (l : List Sb), Heapy n l → hs.all (fun h => heapB n h.1 h.2) = true → Heapy n (hs.foldl (fun l h => putS l (0, h)) l)
  | [], l, h, _ => h
  | x :: hs, l, h, hg => by
    simp only [List.all_cons, Bool.and_eq_true] at hg
    exact start_heapy hs _ (heapy_put h hg.1) hg.2
theorem walk_heapy {nm : List ByteArray} {es : List Ed} : ∀ (f k : Nat) (l : List Sb), Heapy (nm.length : Int) l → Heapy (nm.length : Int) (walkS nm es f k l)
  | 0, _, _, h => h
  | f + 1, k, l, h => by
    rw [walkS]
    split
    · exact walk_heapy f _ _ (heapy_fold _ _ _ h)
    · exact h
theorem states_small {nm : List ByteArray} {np : Int} {es : List Ed} {bs : List (List Int × List Int)} {ss : List Sp} (h : ss.map Sp.body = (statesS nm np es bs).1) : ss.length ≤ 200 ∧ ∀ x ∈ ss, x.h.vs.length ≤ 4 ∧ x.h.zs.length ≤ 6 := by
  have key : (statesS nm np es bs).1.length ≤ 200 ∧ Heapy (nm.length : Int) (statesS nm np es bs).1 := by
    unfold statesS
    split
    · rename_i hg
      split
      · rename_i hl
        exact ⟨hl, walk_heapy _ _ _ (start_heapy _ _ (fun x hx => by simp at hx) hg.2)⟩
      · exact ⟨Nat.zero_le _, fun x hx => by simp at hx⟩
    · exact ⟨Nat.zero_le _, fun x hx => by simp at hx⟩
  refine ⟨by have := key.1; rw [← h] at this; simpa using this, fun x hx => ?_⟩
  have hm : x.body ∈ (statesS nm np es bs).1 := h ▸ List.mem_map_of_mem hx
  have hp := heapB_parts (key.2 _ hm)
  have h1 : x.h.vs.length ≤ 4 := hp.1.2.1
  have h2 : x.h.zs.length ≤ 6 := hp.2.1
  exact ⟨h1, h2⟩
theorem mk_states {lo : Nat} {W : World} {ss : List Sp} {a : Option Addr} {c n : Nat} {base : Nat} {e : TypeId} (h : W.ownsRow base e 3 (.slice a n c) n (spVals ss)) (hi : HeapsIn lo W (ss.map Sp.h)) : StatesAt W a ss :=
  ⟨Row.ownedN h, fun _ hx => hi.at_ (List.mem_map_of_mem hx)⟩
theorem followS_count (ss : List ByteArray) (es : List Ed) : ∀ (l : List Int) (st : Sb) (k : Int), (followS ss es st k l).2.2 ≤ k + (l.length : Int)
  | [], st, k => by show k ≤ k + ((0 : Nat) : Int); omega
  | e :: r, st, k => by
    rw [followS]
    have hl : ((e :: r).length : Int) = (r.length : Int) + 1 := by simp
    split
    · split
      · have := followS_count ss es r ((edgeAt es e).t, (execS ss (edgeAt es e).k (edgeAt es e).a (edgeAt es e).b st.2.1 st.2.2).2) (k + 1)
        omega
      · show k ≤ k + _
        omega
    · show k ≤ k + _
      omega
theorem follow0_count (ss : List ByteArray) (n : Int) (es : List Ed) (vs zs edges : List Int) : (follow0 ss n es vs zs edges).2.2 ≤ (edges.length : Int) := by
  rw [follow0]
  split
  · have := followS_count ss es edges (0, (vs, zs)) 0
    omega
  · show (0 : Int) ≤ _
    omega
theorem small_good {v c : Int} {b : List Int × List Int} (h : b ∈ smallS v c) : heapB v b.1 b.2 = true ∧ (b.2.length : Int) ≤ c := by
  unfold smallS at h
  split at h
  · next hg =>
    obtain ⟨n, hn, h⟩ := List.mem_flatMap.1 h
    obtain ⟨hd, _, h⟩ := List.mem_flatMap.1 h
    obtain ⟨z, hz, h⟩ := List.mem_flatMap.1 h
    split at h
    · next hp =>
      rw [List.mem_singleton.1 h]
      have hv : ((v.toNat : Nat) : Int) = v := by omega
      rw [hv] at hp
      have h1 := listsS_each hz
      have h2 := List.mem_range.1 hn
      exact ⟨hp, by show (z.length : Int) ≤ c; omega⟩
    · simp at h
  · simp at h
theorem small_many (v c : Int) : (smallS v c).length ≤ 1048576 := by
  unfold smallS
  split
  · next h => exact Nat.le_trans (sizes_len (v := v.toNat) (c := c.toNat) (by omega) (by omega) (Nat.le_refl _)) (by omega)
  · simp

set_option maxRecDepth 100000 in
set_option maxHeartbeats 16000000 in
theorem walk (a : Option Addr) (n cap : Nat) (w : World) (hn : n ≤ maxLen) (hcode : Code8 w w.heap.size n a) (hT : HasNamesTable w) : Calls Tryz.prog 3 #[.slice a n cap] w (TrueEnd w) := by
  by_cases hbig : 1048576 < n
  · go_enter Tryz.func3, Tryz.ntmps3
    go_wp2_with fail
    refine (bigYes a n cap _ hn hbig).mono ?_
    rintro e w1 ⟨rfl, rfl⟩
    go_wp2
    go_ret
    exact ⟨rfl, Below.refl _ _⟩
  have HCD := Lib.hid (show ∀ W, Below w.heap.size w W → Code8 W W.heap.size n a ∧ HasNamesTable W from fun W h => ⟨(hcode.keeps fun p hp => h.cell hp).grow h.size, hT.keeps h⟩)
  clear hcode hT
  go_enter Tryz.func3, Tryz.ntmps3
  go_wp2_with fail
  refine (bigNo a n cap _ (by omega)).mono ?_
  rintro e w0 ⟨rfl, rfl⟩
  go_wp2_with fail
  refine (drawFollow a n cap _ (by omega) (HCD.out _ (Below.refl _ _)).1).mono ?_
  rintro e w1 ⟨ra, rc, rb, rd, ss, p, es, ha, hca, hb, hcb, vs, zs, ea, ec, edges, hS, rfl, hvz, ⟨hel, heb⟩, ⟨hr1, hr2⟩, hat, hnil, hre, hb1⟩
  obtain ⟨W1, hW1, hbw1, bp1, bh1⟩ := two_boxL w1 [.slice ra ss.length rc, .int .i64 p, .slice rb es.length rd] [.slice ha vs.length hca, .slice hb zs.length hcb] 27 30
  simp only [List.toArray] at hW1
  have K1 := Lib.hid (show ∀ W, Below W1.heap.size W1 W → Below w.heap.size w W ∧ (BoxL W w1.heap.size [.slice ra ss.length rc, .int .i64 p, .slice rb es.length rd] ∧ BoxL W (w1.heap.size + 1) [.slice ha vs.length hca, .slice hb zs.length hcb]) ∧ (Row W W.heap.size ra (strVals ss) ∧ Row W W.heap.size rb (edVals es)) ∧ HeapAt W ha hb vs zs ∧ Row W W.heap.size ea (intVals edges) from fun W h =>
    have h1 : Below w1.heap.size w1 W := hbw1.trans (h.mono hbw1.size)
    ⟨hb1.trans (h1.mono hb1.size), ⟨bp1.below h, bh1.below h⟩, ⟨(hr1.below h1).grow h1.size, (hr2.below h1).grow h1.size⟩, hat.below h1 (Nat.le_refl _), (hre.below h1).grow h1.size⟩)
  have HS := Lib.hid hS
  have HNIL := Lib.hid hnil
  have HEB := Lib.hid (show ∀ x ∈ edges, -9223372036854775808 ≤ x ∧ x ≤ 9223372036854775807 from fun x hx => by have := heb x hx; omega)
  have hvl := hvz.1
  have hzl := hvz.2
  obtain ⟨p1, ps, qs, c1, c2, hfol⟩ : ∃ p1 ps qs c1 c2, follow0 ss p es vs zs edges = ((p1, (ps, qs)), c1, c2) := ⟨_, _, _, _, _, rfl⟩
  have hfl := follow0_lens ss p es vs zs edges
  have hcn := follow0_count ss p es vs zs edges
  rw [hfol] at hfl hcn
  have hpl : ps.length ≤ 4 := hfl.1
  have hql : qs.length ≤ 6 := hfl.2
  have hcn2 : ¬ ((edges.length : Int) < c2) := by have : c2 ≤ (edges.length : Int) := hcn; omega
  have HF := Lib.hid hfol
  have k1 := K1.out _ (Below.refl _ _)
  have x0 := k1.2.1.1.c 0 _ rfl
  have x1 := k1.2.1.1.c 1 _ rfl
  have x2 := k1.2.1.1.c 2 _ rfl
  have y0 := k1.2.1.2.c 0 _ rfl
  have y1 := k1.2.1.2.c 1 _ rfl
  clear bp1 bh1 hr1 hr2 hat hre hb1 hS hnil heb hfol hfl hcn hvz
  go_wp2_with fail
  try rw [hW1]
  clear hW1 hbw1
  refine (implFollow ra rc ss p rb rd es ha hb hca hcb vs zs ea ec edges _ ⟨by have := HS.out.len; unfold maxLen; omega, fun s hs => by have := HS.out.size s hs; unfold maxLen; omega, k1.2.2.1.1⟩ ⟨by have := HS.out.edges; omega, k1.2.2.1.2⟩ (by unfold maxLen; omega) (by unfold maxLen; omega) k1.2.2.2.1 (by omega) k1.2.2.2.2 (HCD.out _ k1.1).2).mono ?_
  rw [HF.out]
  rintro e w2 ⟨xa, xc, xb, xd, rfl, hin2, hb2⟩
  dsimp only at hin2
  obtain ⟨W2, hW2, bx2, hal2, hz2⟩ := new_box w2 [.int .i64 p1, .slice xa ps.length xc, .slice xb qs.length xd] 34
  simp only [List.toArray] at hW2
  have K2 := Lib.hid (show ∀ W, Below W2.heap.size W2 W → Below W1.heap.size W1 W ∧ BoxL W w2.heap.size [.int .i64 p1, .slice xa ps.length xc, .slice xb qs.length xd] ∧ HeapAt W xa xb ps qs from fun W h =>
    have h2 : Below w2.heap.size w2 W := hal2.trans (h.mono hal2.size)
    ⟨hb2.trans (h2.mono hb2.size), bx2.below h, hin2.rows.below h2 (Nat.le_refl _)⟩)
  clear x0 x1 x2 y0 y1 k1 hin2 bx2
  have k2 := K1.out _ (K2.out _ (Below.refl _ _)).1
  have x0 := k2.2.1.1.c 0 _ rfl
  have x1 := k2.2.1.1.c 1 _ rfl
  have x2 := k2.2.1.1.c 2 _ rfl
  have y0 := k2.2.1.2.c 0 _ rfl
  have y1 := k2.2.1.2.c 1 _ rfl
  go_wp2_with fail
  try rw [hW2]
  clear hW2 hal2 hb2
  refine (specFollow ra rc ss p rb rd es ha hb hca hcb vs zs ea ec edges _ ⟨by have := HS.out.len; unfold maxLen; omega, fun s hs => by have := HS.out.size s hs; unfold maxLen; omega, k2.2.2.1.1⟩ (by have := HS.out.pts; omega) ⟨by have := HS.out.edges; unfold maxLen; omega, k2.2.2.1.2⟩ (by unfold maxLen; omega) (by unfold maxLen; omega) k2.2.2.2.1 HNIL.out.1 HNIL.out.2 (by unfold maxLen; omega) k2.2.2.2.2 HEB.out).mono ?_
  rw [HF.out]
  rintro e w3 ⟨ya, yc, yb, yd, rfl, hin3, hb3⟩
  dsimp only at hin3
  obtain ⟨W3, hW3, bx3, hal3, hz3⟩ := new_box w3 [.int .i64 p1, .slice ya ps.length yc, .slice yb qs.length yd] 34
  simp only [List.toArray] at hW3
  have K3 := Lib.hid (show ∀ W, Below W3.heap.size W3 W → Below W2.heap.size W2 W from fun W h => hb3.trans ((hal3.trans (h.mono hal3.size)).mono hb3.size))
  have hy3 := hin3.rows.below hal3 (Nat.le_refl _)
  clear x0 x1 x2 y0 y1 k2 hin3
  have k3 := K2.out _ (K3.out _ (Below.refl _ _))
  have x0 := k3.2.1.c 0 _ rfl
  have x1 := k3.2.1.c 1 _ rfl
  have x2 := k3.2.1.c 2 _ rfl
  have y0 := bx3.c 0 _ rfl
  have y1 := bx3.c 1 _ rfl
  have y2 := bx3.c 2 _ rfl
  go_wp2_with fail
  try rw [hW3]
  clear hW3 hal3 hb3
  refine (implEqualState p1 p1 xa xb ya yb _ _ _ _ ps qs ps qs _ (by unfold maxLen; omega) (by unfold maxLen; omega) k3.2.2 hy3).mono ?_
  rw [sameSp_iff.2 ⟨rfl, rfl, rfl⟩]
  rintro e w4 ⟨rfl, hb4⟩
  have K4 := Lib.hid (fun W (h : Below w4.heap.size w4 W) => K2.out W (K3.out W (hb4.trans (h.mono hb4.size))))
  clear x0 x1 x2 y0 y1 y2 k3 hy3 bx3 hb4 K3 K2
  have hB4 := (K1.out _ (K4.out _ (Below.refl _ _)).1).1
  go_wp2_with fail
  refine (drawStatesFrom a n cap _ (by omega) (HCD.out _ hB4).1).mono ?_
  rintro e w5 ⟨qa, qc, qb, qd, tt, p', fs, sa, sc, hs, hS2, rfl, hhl, hhx, hq1, hq2, hhat, hhnil, hb5⟩
  obtain ⟨W5, hW5, bx5, hal5, hz5⟩ := new_box w5 [.slice qa tt.length qc, .int .i64 p', .slice qb fs.length qd] 27
  simp only [List.toArray] at hW5
  have K5 := Lib.hid (show ∀ W, Below W5.heap.size W5 W → Below w4.heap.size w4 W ∧ BoxL W w5.heap.size [.slice qa tt.length qc, .int .i64 p', .slice qb fs.length qd] ∧ (Row W W.heap.size qa (strVals tt) ∧ Row W W.heap.size qb (edVals fs)) ∧ HeapsAt W sa hs from fun W h =>
    have h5 : Below w5.heap.size w5 W := hal5.trans (h.mono hal5.size)
    ⟨hb5.trans (h5.mono hb5.size), bx5.below h, ⟨(hq1.below h5).grow h5.size, (hq2.below h5).grow h5.size⟩, hhat.below h5⟩)
  have HS2 := Lib.hid hS2
  have HHX := Lib.hid hhx
  have HHN := Lib.hid hhnil
  obtain ⟨rs, hrs⟩ : ∃ rs, statesS tt p' fs (hs.map Hp.body) = rs := ⟨_, rfl⟩
  obtain ⟨bl, fl9⟩ := rs
  have HRS := Lib.hid hrs
  have HSM := Lib.hid (show ∀ ss : List Sp, ss.map Sp.body = bl → ss.length ≤ 200 ∧ ∀ x ∈ ss, x.h.vs.length ≤ 4 ∧ x.h.zs.length ≤ 6 from fun ss h => states_small (by rw [hrs]; exact h))
  have k5 := K5.out _ (Below.refl _ _)
  have x0 := k5.2.1.c 0 _ rfl
  have x1 := k5.2.1.c 1 _ rfl
  have x2 := k5.2.1.c 2 _ rfl
  clear bx5 hq1 hq2 hhat hhnil hb5 hS2 hhx hrs hB4
  go_wp2_with fail
  try rw [hW5]
  clear hW5 hal5
  refine (implStatesFrom qa qc tt p' qb qd fs sa sc hs _ ⟨by have := HS2.out.len; unfold maxLen; omega, fun s hs => by have := HS2.out.size s hs; unfold maxLen; omega, k5.2.2.1.1⟩ ⟨by have := HS2.out.edges; omega, k5.2.2.1.2⟩ (HCD.out _ (K1.out _ (K4.out _ k5.1).1).1).2 (by omega) k5.2.2.2 (fun x hx => by have := HHX.out x hx; unfold maxLen; omega)).mono ?_
  rw [HRS.out]
  rintro e w6 ⟨v6, s1, rfl, hs1b, ho6, hi6, _, hb6⟩
  obtain ⟨ga, gc, rfl⟩ := own_form ho6
  have K6 := Lib.hid (show ∀ W, Below w6.heap.size w6 W → StatesAt W ga s1 ∧ Below W5.heap.size W5 W from fun W h => ⟨(mk_states ho6 hi6).below h, hb6.trans (h.mono hb6.size)⟩)
  have HS1B := Lib.hid hs1b
  clear x0 x1 x2 k5 hs1b ho6 hi6 hb6
  have k6 := K5.out _ (K6.out _ (Below.refl _ _)).2
  have x0 := k6.2.1.c 0 _ rfl
  have x1 := k6.2.1.c 1 _ rfl
  have x2 := k6.2.1.c 2 _ rfl
  go_wp2_with fail
  refine (specStatesFrom qa qc tt p' qb qd fs sa sc hs _ ⟨by have := HS2.out.len; unfold maxLen; omega, fun s hs => by have := HS2.out.size s hs; unfold maxLen; omega, k6.2.2.1.1⟩ (by have := HS2.out.pts; omega) ⟨by have := HS2.out.edges; omega, k6.2.2.1.2⟩ (by omega) k6.2.2.2 (fun x hx => by have := HHX.out x hx; unfold maxLen; omega) HHN.out).mono ?_
  rw [HRS.out]
  rintro e w7 ⟨oa, oc, s2, rfl, hs2b, hat2, hb7⟩
  have K7 := Lib.hid (show ∀ W, Below w7.heap.size w7 W → StatesAt W oa s2 ∧ Below w6.heap.size w6 W from fun W h => ⟨hat2.below h, hb7.trans (h.mono hb7.size)⟩)
  have HS2B := Lib.hid hs2b
  clear x0 x1 x2 k6 hs2b hat2 hb7
  have HCODE := Lib.hid (show ∀ W, Below w7.heap.size w7 W → Below w.heap.size w W from fun W h => (K1.out _ (K4.out _ (K5.out _ (K6.out _ (K7.out _ h).2).2).1).1).1)
  go_wp2_with fail
  refine (drawSmallHeaps a n cap _ (by omega) (HCD.out _ (HCODE.out _ (Below.refl _ _))).1).mono ?_
  rintro e w8 ⟨v, c, rfl, hb8⟩
  go_wp2_with fail
  refine (implSmall v c _).mono ?_
  rintro e w9 ⟨v9, sm, rfl, hM, hb9⟩
  obtain ⟨ma, mc, hv9⟩ := own_form hM.own
  subst hv9
  have hsm : sm.length ≤ 1048576 := by have h := small_many v c; rw [← hM.body] at h; simpa using h
  have HSMB := Lib.hid hM.body
  have K9 := Lib.hid (show ∀ W, Below w9.heap.size w9 W → HeapsAt W ma sm ∧ Below w7.heap.size w7 W from fun W h => ⟨(show HeapsAt w9 ma sm from ⟨Row.ownedN hM.own, fun x hx => hM.ins.at_ hx⟩).below h, hb8.trans ((hb9.trans (h.mono hb9.size)).mono hb8.size)⟩)
  clear hM hb8 hb9
  go_wp2_with fail
  refine (drawEqualState a n cap _ (by omega) (HCD.out _ (HCODE.out _ (K9.out _ (Below.refl _ _)).2)).1).mono ?_
  rintro e w10 ⟨j1, ua, uca, ub, ucb, us, ys, j2, za, zca, zb, zcb, vs2, zs2, rfl, hlens, hu, hzz, hb10⟩
  obtain ⟨W10, hW10, hbw10, bu10, bz10⟩ := two_boxL w10 [.int .i64 j1, .slice ua us.length uca, .slice ub ys.length ucb] [.int .i64 j2, .slice za vs2.length zca, .slice zb zs2.length zcb] 34 34
  simp only [List.toArray] at hW10
  have K10 := Lib.hid (show ∀ W, Below W10.heap.size W10 W → ((HeapAt W ua ub us ys ∧ HeapAt W za zb vs2 zs2) ∧ BoxL W w10.heap.size [.int .i64 j1, .slice ua us.length uca, .slice ub ys.length ucb] ∧ BoxL W (w10.heap.size + 1) [.int .i64 j2, .slice za vs2.length zca, .slice zb zs2.length zcb]) ∧ Below w9.heap.size w9 W from fun W h =>
    have h10 : Below w10.heap.size w10 W := hbw10.trans (h.mono hbw10.size)
    ⟨⟨⟨hu.below h10 (Nat.le_refl _), hzz.below h10 (Nat.le_refl _)⟩, bu10.below h, bz10.below h⟩, hb10.trans (h10.mono hb10.size)⟩)
  obtain ⟨sb, hsb⟩ : ∃ sb, sameSp j1 j2 us ys vs2 zs2 = sb := ⟨_, rfl⟩
  have C1 := Lib.hid (show ∀ W, Below W10.heap.size W10 W → Calls Tryz.prog 17 #[.slice ga s1.length gc, .slice oa s2.length oc] W (GaveX (.bool true) W) from fun W h =>
    have h9 := K7.out _ (K9.out _ (K10.out _ h).2).2
    sameStateRows ga oa gc oc s1 s2 W (by have := (HSM.out _ HS1B.out).1; unfold maxLen; omega) (fun x hx => by have := (HSM.out _ HS1B.out).2 x hx; unfold maxLen; omega) (HS2B.out.trans HS1B.out.symm) (K6.out _ h9.2).1 h9.1)
  have C2 := Lib.hid (show ∀ W, Below W10.heap.size W10 W → ∀ (g' cap' : Nat) (sm2 : List Hp) (b' e' l' : Nat), sm2.map Hp.body = smallS v c → W.ownsRow b' e' 2 (.slice (some ⟨g', 0, none⟩) sm2.length cap') sm2.length (hpVals sm2) → HeapsIn l' W sm2 → Calls Tryz.prog 18 #[.slice ma sm.length mc, .slice (some ⟨g', 0, none⟩) sm2.length cap'] W (GaveX (.bool true) W) from fun W h g' cap' sm2 b' e' l' hb ho hi =>
    sameHeapRows ma _ mc cap' sm sm2 W (by unfold maxLen; omega) (fun x hx => by
      have h1 : x.body ∈ smallS v c := HSMB.out ▸ List.mem_map_of_mem hx
      have h2 := heapB_parts (small_good h1).1
      have h3 : x.vs.length ≤ 4 := h2.1.2.1
      have h4 : x.zs.length ≤ 6 := h2.2.1
      unfold maxLen
      omega) (hb.trans HSMB.out.symm) (K9.out _ (K10.out _ h).2).1 ⟨Row.ownedN ho, fun x hx => hi.at_ hx⟩)
  have C3 := Lib.hid (show ∀ W, Below W10.heap.size W10 W → Calls Tryz.prog 10 #[spC j1 ua us.length uca ub ys.length ucb, spC j2 za vs2.length zca zb zs2.length zcb] W (GaveX (.bool sb) W) from fun W h => by
    have h1 := implEqualState j1 j2 ua ub za zb uca ucb zca zcb us ys vs2 zs2 W (by unfold maxLen; omega) (by unfold maxLen; omega) (K10.out _ h).1.1.1 (K10.out _ h).1.1.2
    rwa [hsb] at h1)
  have C4 := Lib.hid (show ∀ W, Below W10.heap.size W10 W → Calls Tryz.prog 20 #[spC j1 ua us.length uca ub ys.length ucb, spC j2 za vs2.length zca zb zs2.length zcb] W (GaveX (.bool sb) W) from fun W h => by
    have h1 := specEqualState j1 j2 ua ub za zb uca ucb zca zcb us ys vs2 zs2 W (by unfold maxLen; omega) (by unfold maxLen; omega) (K10.out _ h).1.1.1 (K10.out _ h).1.1.2
    rwa [hsb] at h1)
  have S10 := Lib.hid (show ∀ W, Below W10.heap.size W10 W → (W.cell? ⟨w10.heap.size, 0, none⟩ = some (.int .i64 j1) ∧ W.cell? ⟨w10.heap.size, 1, none⟩ = some (.slice ua us.length uca) ∧ W.cell? ⟨w10.heap.size, 2, none⟩ = some (.slice ub ys.length ucb)) ∧ (W.cell? ⟨w10.heap.size + 1, 0, none⟩ = some (.int .i64 j2) ∧ W.cell? ⟨w10.heap.size + 1, 1, none⟩ = some (.slice za vs2.length zca) ∧ W.cell? ⟨w10.heap.size + 1, 2, none⟩ = some (.slice zb zs2.length zcb)) from fun W h =>
    let k := (K10.out _ h).1.2
    ⟨⟨k.1.c 0 _ rfl, k.1.c 1 _ rfl, k.1.c 2 _ rfl⟩, k.2.c 0 _ rfl, k.2.c 1 _ rfl, k.2.c 2 _ rfl⟩)
  clear hu hzz hb10 hbw10 bu10 bz10 hsb hlens
  have hD : Below W10.heap.size W10 W10.drew := Below.drew (Below.refl _ _)
  go_wp2
  try rw [hW10]
  clear hW10
  go_region_held3 (fun W => (W.cell? ⟨w10.heap.size, 0, none⟩ = some (.int .i64 j1) ∧ W.cell? ⟨w10.heap.size, 1, none⟩ = some (.slice ua us.length uca) ∧ W.cell? ⟨w10.heap.size, 2, none⟩ = some (.slice ub ys.length ucb)) ∧ (W.cell? ⟨w10.heap.size + 1, 0, none⟩ = some (.int .i64 j2) ∧ W.cell? ⟨w10.heap.size + 1, 1, none⟩ = some (.slice za vs2.length zca) ∧ W.cell? ⟨w10.heap.size + 1, 2, none⟩ = some (.slice zb zs2.length zcb)))
    (first | exact S10.out _ hD | exact S10.out _ H11 | exact S10.out _ H12 | exact S10.out _ H13 | exact S10.out _ H14 | exact S10.out _ H15)
    (first
      | (go_at_call 17; (refine (C1.out _ hD).mono ?_); rintro e w11 ⟨rfl, hb11⟩; have H11 := hD.trans (hb11.mono hD.size))
      | (go_at_call 19; (refine (specSmall v c _).mono ?_); rintro e w12 ⟨g', cap', sm2, hbd2, rfl, ho2, hi2, _, hb12⟩; have H12 := H11.trans (hb12.mono H11.size))
      | (go_at_call 18; (refine (C2.out _ H12 _ _ _ _ _ _ hbd2 ho2 hi2).mono ?_); rintro e w13 ⟨rfl, hb13⟩; have H13 := H12.trans (hb13.mono H12.size))
      | (go_at_call 10; (refine (C3.out _ H13).mono ?_); rintro e w14 ⟨rfl, hb14⟩; have H14 := H13.trans (hb14.mono H13.size))
      | (go_at_call 20; (refine (C4.out _ H14).mono ?_); rintro e w15 ⟨rfl, hb15⟩; have H15 := H14.trans (hb15.mono H14.size)))
  have K15 := Lib.hid (fun W (h : Below w15.heap.size w15 W) => (K10.out W (H15.trans (h.mono H15.size))).2)
  clear hb11 hb12 hb13 hb14 hb15 H11 H12 H13 H14 H15 hD C1 C2 C3 C4 S10 hbd2 ho2 hi2
  go_wp2
  go_loopw [23] (fun i wr => ∃ k : Nat, k ≤ sm.length ∧ i = .int .i64 (k : Int) ∧ Below w15.heap.size w15 wr) (fun i _ => sm.length - (intOf i).toNat)
  case atStart => exact ⟨0, Nat.zero_le _, rfl, Below.refl _ _⟩
  case round =>
    obtain ⟨k, hk, rfl, hbr⟩ := hrel
    have h9 := K15.out _ hbr
    by_cases hlt : k < sm.length
    · obtain ⟨mb, mo, rfl, hmb, m0, m1, hma⟩ := (K9.out _ h9).1.item k hlt
      have hgood : heapB v sm[k].vs sm[k].zs = true ∧ (sm[k].zs.length : Int) ≤ c := small_good (b := sm[k].body) (HSMB.out ▸ List.mem_map_of_mem (List.getElem_mem hlt))
      generalize sm[k] = x at *
      have hx := heapB_parts hgood.1
      have hnc : ¬ (c < (x.zs.length : Int)) := by omega
      have HG := Lib.hid hgood.1
      have HBR := Lib.hid hbr
      clear hgood h9 hbr
      go_wp2_with fail
      refine (specIsHeap v x.a x.b x.ca x.cb x.vs x.zs _ (by unfold maxLen; omega) (by unfold maxLen; omega) hma).mono ?_
      rw [HG.out]
      rintro e w16 ⟨rfl, hb16⟩
      have n0 := (hb16.cell (p := ⟨mb, mo + k * 2, none⟩) hmb).trans m0
      have n1 := (hb16.cell (p := ⟨mb, mo + k * 2 + 1, none⟩) hmb).trans m1
      have HB16 := Lib.hid (HBR.out.trans (hb16.mono HBR.out.size))
      clear m0 m1 hx hb16
      go_wp2
      go_roundw
      case rel => exact ⟨k + 1, by omega, by go_num, HB16.out⟩
      case measure => simp [intOf]; omega
    · have hke : k = sm.length := by omega
      have k4 := K4.out _ (K5.out _ (K6.out _ (K7.out _ (K9.out _ h9).2).2).2).1
      have k1 := K1.out _ k4.1
      have x0 := k1.2.1.1.c 0 _ rfl
      have x1 := k1.2.1.1.c 1 _ rfl
      have x2 := k1.2.1.1.c 2 _ rfl
      have y0 := k1.2.1.2.c 0 _ rfl
      have y1 := k1.2.1.2.c 1 _ rfl
      obtain ⟨W17, hW17, bx17, hal17, hz17⟩ := new_box wr [.slice ha vs.length hca, .slice hb zs.length hcb] 30
      simp only [List.toArray] at hW17
      have HA17 := Lib.hid (show HeapsAt W17 (some ⟨wr.heap.size, 0, none⟩) [⟨ha, hca, hb, hcb, vs, zs⟩] from ⟨fun j u hu => ⟨_, 0, rfl, hz17, by rw [Nat.zero_add]; exact bx17.c j u hu⟩, fun y hy => by
        obtain rfl := List.mem_singleton.1 hy
        exact k1.2.2.2.1.below hal17 (Nat.le_refl _)⟩)
      have ALL := Lib.hid (show ∀ W, Below W17.heap.size W17 W → Below w.heap.size w W ∧ (Row W W.heap.size ra (strVals ss) ∧ Row W W.heap.size rb (edVals es)) ∧ BoxL W w2.heap.size [.int .i64 p1, .slice xa ps.length xc, .slice xb qs.length xd] ∧ HeapAt W xa xb ps qs from fun W h => by
        have h17 : Below wr.heap.size wr W := hal17.trans (h.mono hal17.size)
        have q4 := K4.out _ (K5.out _ (K6.out _ (K7.out _ (K9.out _ (h9.trans (h17.mono h9.size))).2).2).2).1
        have q1 := K1.out _ q4.1
        exact ⟨q1.1, q1.2.2.1, q4.2⟩)
      obtain ⟨rs2, hrs2⟩ : ∃ rs2, statesS ss p es [(vs, zs)] = rs2 := ⟨_, rfl⟩
      obtain ⟨bl2, al⟩ := rs2
      have HRS2 := Lib.hid hrs2
      have HE17 := (ALL.out _ (Below.refl _ _)).2.1
      clear bx17 k4 k1 h9 hrs2 hbr
      go_wp2_with fail
      try rw [hW17]
      clear hW17 hal17 x0 x1 x2 y0 y1
      refine (specStatesFrom ra rc ss p rb rd es (some ⟨wr.heap.size, 0, none⟩) 1 [⟨ha, hca, hb, hcb, vs, zs⟩] _ ⟨by have := HS.out.len; unfold maxLen; omega, fun s hs => by have := HS.out.size s hs; unfold maxLen; omega, HE17.1⟩ (by have := HS.out.pts; omega) ⟨by have := HS.out.edges; omega, HE17.2⟩ (by simp) HA17.out (fun y hy => by
        obtain rfl := List.mem_singleton.1 hy
        unfold maxLen
        exact ⟨by show vs.length ≤ _; omega, by show zs.length ≤ _; omega⟩) (fun y hy => by
        obtain rfl := List.mem_singleton.1 hy
        exact HNIL.out)).mono ?_
      rintro e w18 ⟨ta, tc, sts, rfl, hstb, hsat, hb18⟩
      rw [show statesS ss p es (List.map Hp.body [⟨ha, hca, hb, hcb, vs, zs⟩]) = (bl2, al) from HRS2.out] at hstb ⊢
      have hstb' : sts.map Sp.body = bl2 := hstb
      have K18 := Lib.hid (show ∀ W, Below w18.heap.size w18 W → StatesAt W ta sts ∧ Below w.heap.size w W ∧ BoxL W w2.heap.size [.int .i64 p1, .slice xa ps.length xc, .slice xb qs.length xd] ∧ HeapAt W xa xb ps qs from fun W h => by
        have q := ALL.out W (hb18.trans (h.mono hb18.size))
        exact ⟨hsat.below h, q.1, q.2.2⟩)
      have HST := Lib.hid hstb'
      clear hstb hstb' hsat hb18 HE17
      by_cases h7 : c1 = 7
      · subst h7
        go_wp2
        go_ret
        exact ⟨rfl, (K18.out _ (Below.refl _ _)).2.1⟩
      · have h7b : (c1 == 7) = false := by simpa using h7
        have H7 := Lib.hid h7
        clear h7
        cases al with
        | false =>
          go_wp2
          go_ret
          exact ⟨rfl, (K18.out _ (Below.refl _ _)).2.1⟩
        | true =>
          have hpb : progB ss p es = true ∧ heapB (ss.length : Int) vs zs = true := by
            have h1 := HF.out
            rw [follow0] at h1
            by_cases hg : progB ss p es = true ∧ heapB (ss.length : Int) vs zs = true
            · exact hg
            · rw [if_neg hg] at h1
              exact absurd (congrArg (fun r => r.2.1) h1).symm H7.out
          have hin : (p1, (ps, qs)) ∈ bl2 := by
            have h1 := run_reached (edges := edges) hpb.1 hpb.2 (by rw [HRS2.out])
            rw [HF.out, HRS2.out] at h1
            exact h1
          have HIN := Lib.hid hin
          have hsl : sts.length ≤ 200 := (states_small (nm := ss) (np := p) (es := es) (bs := [(vs, zs)]) (by rw [HRS2.out]; exact HST.out)).1
          have hse := Lib.hid (states_small (nm := ss) (np := p) (es := es) (bs := [(vs, zs)]) (ss := sts) (by rw [HRS2.out]; exact HST.out)).2
          clear hpb hin
          go_wp2
          go_loopw [26] (fun i wz => ∃ k : Nat, k ≤ sts.length ∧ i = .int .i64 (k : Int) ∧ Below w18.heap.size w18 wz ∧ ∀ j (hj : j < sts.length), j < k → sts[j].body ≠ (p1, (ps, qs))) (fun i _ => sts.length - (intOf i).toNat)
          case atStart => exact ⟨0, Nat.zero_le _, rfl, Below.refl _ _, fun j _ hj => by omega⟩
          case round =>
            obtain ⟨k, hk, rfl, hbz, hno⟩ := hrel
            have HNO := Lib.hid hno
            clear hno
            have kz := K18.out _ hbz
            by_cases hlt : k < sts.length
            · obtain ⟨tb, ot, rfl, htb, m0, m1, m2, hma⟩ := kz.1.item k hlt
              have hlx := hse.out sts[k] (List.getElem_mem hlt)
              obtain ⟨x, hx⟩ : ∃ x, sts[k] = x := ⟨_, rfl⟩
              rw [hx] at m0 m1 m2 hma hlx
              have HX := Lib.hid hx
              clear hx
              obtain ⟨q, hq⟩ : ∃ q, sameSp x.p p1 x.h.vs x.h.zs ps qs = q := ⟨_, rfl⟩
              have HQ := Lib.hid hq
              have C := Lib.hid (show ∀ W, Below wr.heap.size wr W → Calls Tryz.prog 20 #[spC x.p x.h.a x.h.vs.length x.h.ca x.h.b x.h.zs.length x.h.cb, spC p1 xa ps.length xc xb qs.length xd] W (GaveX (.bool q) W) from fun W h => by
                have h1 := specEqualState x.p p1 x.h.a x.h.b xa xb x.h.ca x.h.cb xc xd x.h.vs x.h.zs ps qs W (by unfold maxLen; omega) (by unfold maxLen; omega) (hma.below h) (K18.out _ (hbz.trans (h.mono hbz.size))).2.2.2
                rwa [hq] at h1)
              have SZ := Lib.hid (show ∀ W, Below wr.heap.size wr W → (W.cell? ⟨tb, ot + k * 3, none⟩ = some (.int .i64 x.p) ∧ W.cell? ⟨tb, ot + k * 3 + 1, none⟩ = some (.slice x.h.a x.h.vs.length x.h.ca) ∧ W.cell? ⟨tb, ot + k * 3 + 2, none⟩ = some (.slice x.h.b x.h.zs.length x.h.cb)) ∧ (W.cell? ⟨w2.heap.size, 0, none⟩ = some (.int .i64 p1) ∧ W.cell? ⟨w2.heap.size, 1, none⟩ = some (.slice xa ps.length xc) ∧ W.cell? ⟨w2.heap.size, 2, none⟩ = some (.slice xb qs.length xd)) from fun W h =>
                let kb := (K18.out _ (hbz.trans (h.mono hbz.size))).2.2.1
                ⟨⟨(h.cell (p := ⟨tb, ot + k * 3, none⟩) htb).trans m0, (h.cell (p := ⟨tb, ot + k * 3 + 1, none⟩) htb).trans m1, (h.cell (p := ⟨tb, ot + k * 3 + 2, none⟩) htb).trans m2⟩, kb.c 0 _ rfl, kb.c 1 _ rfl, kb.c 2 _ rfl⟩)
              have HBZ := Lib.hid hbz
              have hD : Below wr.heap.size wr wr.drew := Below.drew (Below.refl _ _)
              clear m0 m1 m2 hma hq kz hbz
              go_wp2
              go_region_held3 (fun W => (W.cell? ⟨tb, ot + k * 3, none⟩ = some (.int .i64 x.p) ∧ W.cell? ⟨tb, ot + k * 3 + 1, none⟩ = some (.slice x.h.a x.h.vs.length x.h.ca) ∧ W.cell? ⟨tb, ot + k * 3 + 2, none⟩ = some (.slice x.h.b x.h.zs.length x.h.cb)) ∧ (W.cell? ⟨w2.heap.size, 0, none⟩ = some (.int .i64 p1) ∧ W.cell? ⟨w2.heap.size, 1, none⟩ = some (.slice xa ps.length xc) ∧ W.cell? ⟨w2.heap.size, 2, none⟩ = some (.slice xb qs.length xd)))
                (first | exact SZ.out _ hD | exact SZ.out _ H19)
                (first
                  | (go_at_call 20; (refine (C.out _ hD).mono ?_); rintro e w19 ⟨rfl, hb19⟩; have H19 := hD.trans (hb19.mono hD.size)))
              have HB19 := Lib.hid (HBZ.out.trans (H19.mono HBZ.out.size))
              clear C SZ hb19 H19 hD
              cases q with
              | true =>
                go_wp2
                go_ret
                exact ⟨rfl, (K18.out _ HB19.out).2.1⟩
              | false =>
                go_wp2
                go_roundw
                case rel =>
                  have hnx : ∀ j (hj : j < sts.length), j < k + 1 → sts[j].body ≠ (p1, (ps, qs)) := fun j hj hjk => by
                    by_cases hjk' : j < k
                    · exact HNO.out j hj hjk'
                    · obtain rfl : j = k := by omega
                      intro he
                      rw [HX.out] at he
                      have h1 : x.p = p1 ∧ x.h.vs = ps ∧ x.h.zs = qs := by simpa [Sp.body, Hp.body] using he
                      have h2 := sameSp_iff.2 h1
                      rw [HQ.out] at h2
                      cases h2
                  first | exact ⟨k + 1, by omega, by go_num, HB19.out, hnx⟩ | ((repeat apply Exists.intro); refine ⟨⟨k + 1, by omega, ?_, HB19.out, hnx⟩, rfl⟩; go_num)
                case measure => simp [intOf]; omega
            · exfalso
              have hin := HIN.out
              rw [← HST.out] at hin
              obtain ⟨x, hx, he⟩ := List.mem_map.1 hin
              obtain ⟨j, hj, rfl⟩ := List.getElem_of_mem hx
              exact HNO.out j hj (by omega) he
end Go.Proofs.YtpmmjaceehlpiaaGreatDoor.runsLaw
