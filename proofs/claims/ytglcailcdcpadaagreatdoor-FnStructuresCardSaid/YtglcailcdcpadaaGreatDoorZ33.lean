/-
  The model's joined value between two groups.
-/
import Derived.Test.YtglcailcdcpadaaGreatDoorZ08
import Derived.Test.YtglcailcdcpadaaGreatDoorZ25
import Derived.Test.YtglcailcdcpadaaGreatDoorZ01
import Derived.Test.YtglcailcdcpadaaGreatDoorZ04
namespace Go.Proofs.YtglcailcdcpadaaGreatDoor
open Go Go.RowKit

def rowJ (s : SBody) (i : Int) (b : List Int) (o : Int) : Int := b.foldl (fun o j => joinT o (nextB s i j)) o
theorem rowJ_next (s : SBody) (i : Int) (b : List Int) (o : Int) (k : Nat) (h : k < b.length) : rowJ s i (b.take (k + 1)) o = joinT (rowJ s i (b.take k) o) (nextB s i b[k]) := by
  unfold rowJ
  rw [take_next b k h, List.foldl_append]
  rfl
def colJ (s : SBody) (a b : List Int) (o : Int) : Int := a.foldl (fun o i => rowJ s i b o) o
theorem colJ_next (s : SBody) (a b : List Int) (o : Int) (k : Nat) (h : k < a.length) : colJ s (a.take (k + 1)) b o = rowJ s a[k] b (colJ s (a.take k) b o) := by
  unfold colJ
  rw [take_next a k h, List.foldl_append]
  rfl
set_option maxRecDepth 100000 in
set_option maxHeartbeats 3200000 in
theorem specGroupNext (x : St) (pa pb : Option Addr) (ca cb : Nat) (a b : List Int) (w : World) (h : Small x.body) (hat : x.At w) (ha0 : 0 < a.length) (hb0 : 0 < b.length) (hal : a.length ≤ 1048576) (hbl : b.length ≤ 1048576) (hra : Row w w.heap.size pa (intVals a)) (hrb : Row w w.heap.size pb (intVals b)) :
    Calls Tryz.prog 134 #[x.v, .slice pa a.length ca, .slice pb b.length cb] w (GaveX (.int .i64 (joinTo x.body a b)) w) := by
  have HNX := Lib.hid (fun (W : World) (i j : Int) (hb : Below w.heap.size w W) => specNext x i j W h (hat.below hb))
  have hJ : joinTo x.body a b = colJ x.body a b (nextB x.body a[0] b[0]) := by
    have e1 : a.headD 0 = a[0] := by cases a with
      | nil => simp at ha0
      | cons z r => rfl
    have e2 : b.headD 0 = b[0] := by cases b with
      | nil => simp at hb0
      | cons z r => rfl
    rw [joinTo, e1, e2]
    rfl
  rw [hJ]
  clear hJ
  have HRA := Lib.hid (fun (W : World) (hb : Below w.heap.size w W) => (hra.below hb).grow hb.size)
  have HRB := Lib.hid (fun (W : World) (hb : Below w.heap.size w W) => (hrb.below hb).grow hb.size)
  obtain ⟨ba, oa, rfl, _, _⟩ := hra 0 _ (intVals_at a 0 ha0)
  obtain ⟨bb, ob, rfl, _, _⟩ := hrb 0 _ (intVals_at b 0 hb0)
  have hCA := Lib.hid (fun (W : World) (hb : Below w.heap.size w W) (k : Nat) (hk : k < a.length) => show W.cell? ⟨ba, oa + k, none⟩ = some (.int .i64 a[k]) from by
    obtain ⟨b1, o1, e, _, hc⟩ := (HRA.out W hb) k _ (intVals_at a k hk)
    have e := Option.some.inj e
    have h1 : ba = b1 := congrArg Addr.block e
    have h2 : oa = o1 := congrArg Addr.off e
    subst h1 h2
    exact hc)
  have hCB := Lib.hid (fun (W : World) (hb : Below w.heap.size w W) (k : Nat) (hk : k < b.length) => show W.cell? ⟨bb, ob + k, none⟩ = some (.int .i64 b[k]) from by
    obtain ⟨b1, o1, e, _, hc⟩ := (HRB.out W hb) k _ (intVals_at b k hk)
    have e := Option.some.inj e
    have h1 : bb = b1 := congrArg Addr.block e
    have h2 : ob = o1 := congrArg Addr.off e
    subst h1 h2
    exact hc)
  have HC := Lib.hid (fun o k h => colJ_next x.body a b o k h)
  have HR := Lib.hid (fun i o k h => rowJ_next x.body i b o k h)
  have HC0 := Lib.hid (fun o => show colJ x.body (a.take 0) b o = o from rfl)
  have HR0 := Lib.hid (fun i o => show rowJ x.body i (b.take 0) o = o from rfl)
  have HCE := Lib.hid (fun o => show colJ x.body (a.take a.length) b o = colJ x.body a b o by rw [List.take_length])
  have HRE := Lib.hid (fun i o => show rowJ x.body i (b.take b.length) o = rowJ x.body i b o by rw [List.take_length])
  clear hra hrb hat h HRA HRB
  obtain ⟨o0, ho0⟩ : ∃ o0, nextB x.body a[0] b[0] = o0 := ⟨_, rfl⟩
  rw [ho0]
  have HO0 := Lib.hid ho0
  clear ho0
  generalize x.body = sb at *
  obtain ⟨xa, xca, ns, xb, xcb, zs⟩ := x
  simp only [St.v] at *
  go_enter Tryz.func134, Tryz.ntmps134
  go_wp2_with fail
  obtain ⟨W0, hW0, hB0, bx0⟩ := one_boxL w [.slice xa ns.length xca, .slice xb zs.length xcb] 27
  simp only [List.toArray] at hW0
  rw [hW0]
  clear hW0
  have ha0i : (0 : Int) < (a.length : Int) := by omega
  have hb0i : (0 : Int) < (b.length : Int) := by omega
  have HS := Lib.hid (fun (W : World) (hb : Below W0.heap.size W0 W) (i j : Nat) (hi : i < a.length) (hj : j < b.length) => show W.cell? ⟨w.heap.size, 0, none⟩ = some (.slice xa ns.length xca) ∧ W.cell? ⟨w.heap.size, 1, none⟩ = some (.slice xb zs.length xcb) ∧ W.cell? ⟨ba, oa + i, none⟩ = some (.int .i64 a[i]) ∧ W.cell? ⟨bb, ob + j, none⟩ = some (.int .i64 b[j]) from
    ⟨(bx0.below hb).c 0 _ rfl, (bx0.below hb).c 1 _ rfl, hCA.out _ (hB0.trans (hb.mono hB0.size)) i hi, hCB.out _ (hB0.trans (hb.mono hB0.size)) j hj⟩)
  have hd := Below.drew (Below.refl W0.heap.size W0)
  have S1 := HS.out _ hd 0 0 ha0 hb0
  simp only [Nat.add_zero] at S1
  refine wp_region_keep (S := fun W => W.cell? ⟨w.heap.size, 0, none⟩ = some (.slice xa ns.length xca) ∧ W.cell? ⟨w.heap.size, 1, none⟩ = some (.slice xb zs.length xcb) ∧ W.cell? ⟨ba, oa, none⟩ = some (.int .i64 a[0]) ∧ W.cell? ⟨bb, ob, none⟩ = some (.int .i64 b[0])) (B := fun i => decide (i ≠ 8)) (by kernel_rfl) ?_
  refine anyKeep.take (i := 0) (v := ?_) rfl (by kernel_rfl) (by kernel_rfl) (by kernel_rfl) (by kernel_rfl) (fun _ _ _ h => h) rfl ?_ S1 ?_
  rotate_left
  · rintro w' ⟨h1, h2, h3, h4⟩
    go_simp
    try with_reducible rfl
  try simp only [Act.put, List.setIfInBounds_toArray]
  refine anyKeep.take (i := 1) (v := ?_) rfl (by kernel_rfl) (by kernel_rfl) (by kernel_rfl) (by kernel_rfl) (fun _ _ _ h => h) rfl ?_ S1 ?_
  rotate_left
  · rintro w' ⟨h1, h2, h3, h4⟩
    go_simp
    try with_reducible rfl
  try simp only [Act.put, List.setIfInBounds_toArray]
  refine anyKeep.take (i := 2) (v := ?_) rfl (by kernel_rfl) (by kernel_rfl) (by kernel_rfl) (by kernel_rfl) (fun _ _ _ h => h) rfl ?_ S1 ?_
  rotate_left
  · rintro w' ⟨h1, h2, h3, h4⟩
    go_simp
    try with_reducible rfl
  try simp only [Act.put, List.setIfInBounds_toArray]
  refine anyKeep.take (i := 3) (v := ?_) rfl (by kernel_rfl) (by kernel_rfl) (by kernel_rfl) (by kernel_rfl) (fun _ _ _ h => h) rfl ?_ S1 ?_
  rotate_left
  · rintro w' ⟨h1, h2, h3, h4⟩
    go_simp
    try with_reducible rfl
  try simp only [Act.put, List.setIfInBounds_toArray]
  refine anyKeep.take (i := 4) (v := ?_) rfl (by kernel_rfl) (by kernel_rfl) (by kernel_rfl) (by kernel_rfl) (fun _ _ _ h => h) rfl ?_ S1 ?_
  rotate_left
  · rintro w' ⟨h1, h2, h3, h4⟩
    go_simp
    try with_reducible rfl
  try simp only [Act.put, List.setIfInBounds_toArray]
  refine anyKeep.take (i := 5) (v := ?_) rfl (by kernel_rfl) (by kernel_rfl) (by kernel_rfl) (by kernel_rfl) (fun _ _ _ h => h) rfl ?_ S1 ?_
  rotate_left
  · rintro w' ⟨h1, h2, h3, h4⟩
    go_simp
    try with_reducible rfl
  try simp only [Act.put, List.setIfInBounds_toArray]
  refine anyKeep.take (i := 6) (v := ?_) rfl (by kernel_rfl) (by kernel_rfl) (by kernel_rfl) (by kernel_rfl) (fun _ _ _ h => h) rfl ?_ S1 ?_
  rotate_left
  · rintro w' ⟨h1, h2, h3, h4⟩
    go_simp
    try with_reducible rfl
  try simp only [Act.put, List.setIfInBounds_toArray]
  refine anyKeep.one (k := 7) (by kernel_rfl) rfl (fun K hK => ?_)
  go_simp
  go_at_call 15
  (with_reducible refine (HNX.out _ a[0] b[0] (hB0.trans (hd.mono hB0.size))).mono ?_)
  rw [HO0.out]
  rintro e w1 ⟨rfl, hb1⟩
  have hB1 := hd.trans (hb1.mono hd.size)
  have S2 := HS.out _ hB1 0 0 ha0 hb0
  simp only [Nat.add_zero] at S2
  refine hK _ _ (fun _ => S2) ?_
  clear hK K
  try simp only [Act.put, List.setIfInBounds_toArray, List.set_cons_zero, List.set_cons_succ]
  refine anyKeep.one (k := 8) (by kernel_rfl) rfl (fun K hK => ?_)
  go_simp
  refine hK _ _ (fun e => by simp at e) ?_
  clear hK K
  try simp only [Act.put, List.setIfInBounds_toArray, List.set_cons_zero, List.set_cons_succ]
  refine anyKeep.done (by kernel_rfl) ?_
  clear S1 S2 hb1
  go_wp2
  go_loopw [7, 8] (fun o i wr => ∃ k : Nat, k ≤ a.length ∧ i = .int .i64 k ∧ o = .int .i64 (colJ sb (a.take k) b o0) ∧ Below W0.heap.size W0 wr) (fun _ i _ => a.length - (intOf i).toNat)
  case atStart => exact ⟨0, Nat.zero_le _, rfl, by rw [HC0.out], hB1⟩
  case round =>
    clear hB1
    obtain ⟨k, hk, rfl, rfl, hB⟩ := hrel
    by_cases hlt : k < a.length
    · have hnx := HC.out o0 k hlt
      generalize hcc : colJ sb (a.take k) b o0 = cc at *
      have HNX1 := Lib.hid hnx
      clear hnx hcc
      go_wp2
      go_loopw [7, 9] (fun o i wr => ∃ j : Nat, j ≤ b.length ∧ i = .int .i64 j ∧ o = .int .i64 (rowJ sb a[k] (b.take j) cc) ∧ Below W0.heap.size W0 wr) (fun _ i _ => b.length - (intOf i).toNat)
      case atStart => exact ⟨0, Nat.zero_le _, rfl, by rw [HR0.out], hB⟩
      case round =>
        clear hB
        obtain ⟨j, hj, rfl, rfl, hB⟩ := hrel
        by_cases hlt2 : j < b.length
        · have hnx2 := HR.out a[k] cc j hlt2
          generalize hrr : rowJ sb a[k] (b.take j) cc = rr at *
          have hki : (k : Int) < (a.length : Int) := by omega
          have hji : (j : Int) < (b.length : Int) := by omega
          have hd2 := hB.trans ((Below.drew (Below.refl wr.heap.size wr)).mono hB.size)
          have S3 := HS.out _ hd2 k j hlt hlt2
          have HS3 := Lib.hid (fun (W : World) (hb : Below W0.heap.size W0 W) => HS.out W hb k j hlt hlt2)
          generalize hai : a[k] = ai at *
          generalize hbj : b[j] = bj at *
          obtain ⟨nv, hnv⟩ : ∃ nv, nextB sb ai bj = nv := ⟨_, rfl⟩
          rw [hnv] at hnx2
          have HNX2 := Lib.hid hnx2
          have HNV := Lib.hid hnv
          clear hnx2 hrr hnv hai hbj
          go_wp2
          refine wp_region_keep (S := fun W => W.cell? ⟨w.heap.size, 0, none⟩ = some (.slice xa ns.length xca) ∧ W.cell? ⟨w.heap.size, 1, none⟩ = some (.slice xb zs.length xcb) ∧ W.cell? ⟨ba, oa + k, none⟩ = some (.int .i64 ai) ∧ W.cell? ⟨bb, ob + j, none⟩ = some (.int .i64 bj)) (B := fun i => decide (i ≠ 12)) (by kernel_rfl) ?_
          refine anyKeep.take (i := 0) (v := ?_) rfl (by kernel_rfl) (by kernel_rfl) (by kernel_rfl) (by kernel_rfl) (fun _ _ _ h => h) rfl ?_ S3 ?_
          rotate_left
          · rintro w' ⟨h1, h2, h3, h4⟩
            go_simp
            try with_reducible rfl
          try simp only [Act.put, List.setIfInBounds_toArray]
          refine anyKeep.take (i := 1) (v := ?_) rfl (by kernel_rfl) (by kernel_rfl) (by kernel_rfl) (by kernel_rfl) (fun _ _ _ h => h) rfl ?_ S3 ?_
          rotate_left
          · rintro w' ⟨h1, h2, h3, h4⟩
            go_simp
            try with_reducible rfl
          try simp only [Act.put, List.setIfInBounds_toArray]
          refine anyKeep.take (i := 2) (v := ?_) rfl (by kernel_rfl) (by kernel_rfl) (by kernel_rfl) (by kernel_rfl) (fun _ _ _ h => h) rfl ?_ S3 ?_
          rotate_left
          · rintro w' ⟨h1, h2, h3, h4⟩
            go_simp
            try with_reducible rfl
          try simp only [Act.put, List.setIfInBounds_toArray]
          refine anyKeep.take (i := 3) (v := ?_) rfl (by kernel_rfl) (by kernel_rfl) (by kernel_rfl) (by kernel_rfl) (fun _ _ _ h => h) rfl ?_ S3 ?_
          rotate_left
          · rintro w' ⟨h1, h2, h3, h4⟩
            go_simp
            try with_reducible rfl
          try simp only [Act.put, List.setIfInBounds_toArray]
          refine anyKeep.take (i := 4) (v := ?_) rfl (by kernel_rfl) (by kernel_rfl) (by kernel_rfl) (by kernel_rfl) (fun _ _ _ h => h) rfl ?_ S3 ?_
          rotate_left
          · rintro w' ⟨h1, h2, h3, h4⟩
            go_simp
            try with_reducible rfl
          try simp only [Act.put, List.setIfInBounds_toArray]
          refine anyKeep.take (i := 5) (v := ?_) rfl (by kernel_rfl) (by kernel_rfl) (by kernel_rfl) (by kernel_rfl) (fun _ _ _ h => h) rfl ?_ S3 ?_
          rotate_left
          · rintro w' ⟨h1, h2, h3, h4⟩
            go_simp
            try with_reducible rfl
          try simp only [Act.put, List.setIfInBounds_toArray]
          refine anyKeep.take (i := 6) (v := ?_) rfl (by kernel_rfl) (by kernel_rfl) (by kernel_rfl) (by kernel_rfl) (fun _ _ _ h => h) rfl ?_ S3 ?_
          rotate_left
          · rintro w' ⟨h1, h2, h3, h4⟩
            go_simp
            try with_reducible rfl
          try simp only [Act.put, List.setIfInBounds_toArray]
          refine anyKeep.take (i := 7) (v := ?_) rfl (by kernel_rfl) (by kernel_rfl) (by kernel_rfl) (by kernel_rfl) (fun _ _ _ h => h) rfl ?_ S3 ?_
          rotate_left
          · rintro w' ⟨h1, h2, h3, h4⟩
            go_simp
            try with_reducible rfl
          try simp only [Act.put, List.setIfInBounds_toArray]
          refine anyKeep.take (i := 8) (v := ?_) rfl (by kernel_rfl) (by kernel_rfl) (by kernel_rfl) (by kernel_rfl) (fun _ _ _ h => h) rfl ?_ S3 ?_
          rotate_left
          · rintro w' ⟨h1, h2, h3, h4⟩
            go_simp
            try with_reducible rfl
          try simp only [Act.put, List.setIfInBounds_toArray]
          refine anyKeep.take (i := 9) (v := ?_) rfl (by kernel_rfl) (by kernel_rfl) (by kernel_rfl) (by kernel_rfl) (fun _ _ _ h => h) rfl ?_ S3 ?_
          rotate_left
          · rintro w' ⟨h1, h2, h3, h4⟩
            go_simp
            try with_reducible rfl
          try simp only [Act.put, List.setIfInBounds_toArray]
          refine anyKeep.one (k := 10) (by kernel_rfl) rfl (fun K hK => ?_)
          go_simp
          go_at_call 15
          (with_reducible refine (HNX.out _ ai bj (hB0.trans (hd2.mono hB0.size))).mono ?_)
          rw [HNV.out]
          rintro e w4 ⟨rfl, hb4⟩
          have hB4 := hd2.trans (hb4.mono hd2.size)
          clear S3
          refine hK _ _ (fun _ => HS3.out _ hB4) ?_
          clear hK K
          try simp only [Act.put, List.setIfInBounds_toArray, List.set_cons_zero, List.set_cons_succ]
          refine anyKeep.one (k := 11) (by kernel_rfl) rfl (fun K hK => ?_)
          go_simp
          go_at_call 151
          (with_reducible refine (specJoinOf rr nv _).mono ?_)
          rintro e w5 ⟨rfl, rfl⟩
          refine hK _ _ (fun _ => HS3.out _ hB4) ?_
          clear hK K
          try simp only [Act.put, List.setIfInBounds_toArray, List.set_cons_zero, List.set_cons_succ]
          refine anyKeep.one (k := 12) (by kernel_rfl) rfl (fun K hK => ?_)
          go_simp
          refine hK _ _ (fun e => by simp at e) ?_
          clear hK K
          try simp only [Act.put, List.setIfInBounds_toArray, List.set_cons_zero, List.set_cons_succ]
          refine anyKeep.done (by kernel_rfl) ?_
          go_wp2
          go_roundw
          case rel => exact ⟨j + 1, by omega, by go_num, by rw [HNX2.out], hB4⟩
          case measure => simp [intOf]; omega
        · have hjb : j = b.length := by omega
          have HE := Lib.hid (show rowJ sb a[k] (b.take j) cc = colJ sb (a.take (k + 1)) b o0 by rw [hjb, HRE.out, HNX1.out])
          clear hjb
          go_wp2
          go_roundw
          case rel => exact ⟨k + 1, by omega, by go_num, by rw [HE.out], hB⟩
          case measure => simp [intOf]; omega
    · have hka : k = a.length := by omega
      have HE := Lib.hid (show colJ sb (a.take k) b o0 = colJ sb a b o0 by rw [hka, HCE.out])
      clear hka
      go_wp2
      go_ret
      exact ⟨by rw [HE.out]; rfl, hB0.trans (hB.mono hB0.size)⟩
end Go.Proofs.YtglcailcdcpadaaGreatDoor
