/-
  Several texts of one proof in one file, in the order in which they build.
-/
import Derived.Lib.SplitLaws
import Derived.Lib.IndexBytes
import Derived.Lib.ItoaNum
import Derived.Laws.BytesString
import Derived.Laws.IdiomStrings
import Derived.Lib.Join
import Derived.Lib.UnsafeStr
import Derived.Test.YtpmmjaceehlpiaaGreatDoorChecked
import Derived.Lib.AtoiAll
import Derived.Lib.CutLaws
import Derived.Laws.Rows
import Derived.WalkSpells
import Derived.Lib.ItoaLen
import Derived.RegionTactic
import Derived.ChangeAlike
import Derived.Test.YtpmmjaceehlpiaaGreatDoorR01
import Derived.Test.YtpmmjaceehlpiaaGreatDoorR03
import Derived.Test.YtpmmjaceehlpiaaGreatDoorR02
/-
  Cutting a list of bytes at every occurrence of one byte. Nothing here knows of the program.
-/
namespace Go.Proofs.YtpmmjaceehlpiaaGreatDoor
open Go

def cut (c : UInt8) : List UInt8 → List (List UInt8)
  | [] => [[]]
  | x :: r => if x = c then [] :: cut c r else match cut c r with
    | [] => [[x]]
    | h :: t => (x :: h) :: t
theorem cut_ne (c : UInt8) : ∀ l, cut c l ≠ []
  | [] => by simp [cut]
  | x :: r => by
    unfold cut
    split
    · simp
    · split <;> simp
theorem cut_none (c : UInt8) : ∀ l : List UInt8, (∀ x ∈ l, x ≠ c) → cut c l = [l]
  | [], _ => rfl
  | x :: r, h => by
    have ih := cut_none c r fun y hy => h y (by simp [hy])
    unfold cut
    rw [if_neg (h x (by simp)), ih]
theorem cut_hit (c : UInt8) : ∀ (p r : List UInt8), (∀ x ∈ p, x ≠ c) → cut c (p ++ c :: r) = p :: cut c r
  | [], r, _ => by simp [cut]
  | x :: p, r, h => by
    have ih := cut_hit c p r fun y hy => h y (by simp [hy])
    rw [List.cons_append, cut, if_neg (h x (by simp)), ih]
/-- The pieces as strings. -/
def mkS (l : List UInt8) : ByteArray := ⟨l.toArray⟩
def pieces (c : UInt8) (s : ByteArray) : List ByteArray := (cut c s.data.toList).map mkS
theorem mkS_list (s : ByteArray) : mkS s.data.toList = s := rfl
theorem mkS_toList (l : List UInt8) : (mkS l).data.toList = l := rfl

theorem splitK_cut (c : UInt8) : ∀ (k : Nat) (l : List UInt8), l.length ≤ k → Lib.splitK [c] 0 (Lib.count l [c]) l = cut c l := by
  intro k
  induction k with
  | zero =>
    intro l h
    have : l = [] := List.eq_nil_of_length_eq_zero (by omega)
    subst this
    have h1 : Lib.index [] [c] = -1 := by simp [Lib.index]
    rw [Lib.count_miss h1]
    rfl
  | succ k ih =>
    intro l h
    have h1 := Lib.index_one l c
    have hge := Lib.indexByte_ge l c
    by_cases hm : Lib.indexByte l c = -1
    · rw [Lib.count_miss (by rw [h1]; exact hm)]
      rw [cut_none c l]
      · rfl
      · intro x hx e
        subst e
        obtain ⟨j, hj⟩ := List.getElem?_of_mem hx
        exact Lib.indexByte_none hm j hj
    · obtain ⟨o, ho⟩ : ∃ o : Nat, Lib.indexByte l c = o := ⟨(Lib.indexByte l c).toNat, by omega⟩
      obtain ⟨hs1, hs2⟩ := Lib.indexByte_some ho
      have hol : o < l.length := (List.getElem?_eq_some_iff.1 hs1).1
      have hoc : l[o] = c := (List.getElem?_eq_some_iff.1 hs1).2
      have hix : Lib.index l [c] = o := by rw [h1, ho]
      have hsplit : l = l.take o ++ c :: l.drop (o + 1) := by
        conv => lhs; rw [← List.take_append_drop o l, List.drop_eq_getElem_cons hol, hoc]
      have hcut : cut c l = l.take o :: cut c (l.drop (o + 1)) := by
        conv => lhs; rw [hsplit]
        refine cut_hit c _ _ fun x hx e => ?_
        subst e
        obtain ⟨j, hj⟩ := List.getElem?_of_mem hx
        have hjo : j < o := by
          have := (List.getElem?_eq_some_iff.1 hj).1
          rw [List.length_take] at this
          omega
        rw [List.getElem?_take_of_lt hjo] at hj
        exact hs2 j hjo hj
      have hcount := Lib.count_hit (s := l) (sub := [c]) (i := o) (by simp) hix
      rw [hcount, hcut, Nat.add_comm, Lib.splitK, hix, if_neg (by simp)]
      simp only [Int.toNat_natCast, Nat.add_zero, List.length_singleton]
      rw [ih _ (by rw [List.length_drop]; omega)]

theorem bytes_inj {a b : ByteArray} (h : a.data.toList = b.data.toList) : a = b := by
  apply ByteArray.ext
  exact Array.toList_inj.1 h
theorem lists_inj : ∀ {a b : List ByteArray}, a.map (·.data.toList) = b.map (·.data.toList) → a = b
  | [], [], _ => rfl
  | [], _ :: _, h => by simp at h
  | _ :: _, [], h => by simp at h
  | x :: a, y :: b, h => by
    simp only [List.map_cons, List.cons.injEq] at h
    rw [bytes_inj h.1, lists_inj h.2]
theorem splitB_pieces (c : UInt8) (s : ByteArray) : Lib.splitB ⟨#[c]⟩ 0 (Lib.countB s ⟨#[c]⟩) s = pieces c s := by
  apply lists_inj
  rw [Lib.splitB_data, pieces, List.map_map]
  have h := splitK_cut c s.data.toList.length s.data.toList (Nat.le_refl _)
  have e : (⟨#[c]⟩ : ByteArray).data.toList = [c] := rfl
  show Lib.splitK (⟨#[c]⟩ : ByteArray).data.toList 0 (Lib.count s.data.toList (⟨#[c]⟩ : ByteArray).data.toList) s.data.toList = _
  rw [e, h]
  conv => lhs; rw [← List.map_id (cut c s.data.toList)]
  rfl
theorem cut_length (c : UInt8) : ∀ l : List UInt8, (cut c l).length ≤ l.length + 1
  | [] => by simp [cut]
  | x :: r => by
    have ih := cut_length c r
    unfold cut
    split
    · simp; omega
    · split
      · simp
      · rename_i h1 h2 h3 h4
        rw [h4] at ih
        simp at ih ⊢
        omega
theorem pieces_length (c : UInt8) (s : ByteArray) : (pieces c s).length ≤ s.size + 1 := by
  have := cut_length c s.data.toList
  simpa [pieces] using this
theorem pieces_count (c : UInt8) (s : ByteArray) : (pieces c s).length = Lib.countB s ⟨#[c]⟩ + 1 := by
  rw [← splitB_pieces, Lib.splitB_all ⟨#[c]⟩ (by show 1 ≤ 1; omega) 0 _ s rfl]
theorem cut_pieces (c : UInt8) : ∀ l : List UInt8, ∀ p ∈ cut c l, ∀ x ∈ p, x ≠ c
  | [], p, hp, x, hx => by
    simp only [cut, List.mem_singleton] at hp
    subst hp
    simp at hx
  | y :: r, p, hp, x, hx => by
    have ih := cut_pieces c r
    unfold cut at hp
    split at hp
    · rcases List.mem_cons.1 hp with rfl | hp
      · simp at hx
      · exact ih p hp x hx
    · rename_i hy
      split at hp
      · simp only [List.mem_singleton] at hp
        subst hp
        simp only [List.mem_singleton] at hx
        subst hx
        exact hy
      · rename_i h t he
        rw [he] at ih
        rcases List.mem_cons.1 hp with rfl | hp
        · rcases List.mem_cons.1 hx with rfl | hx
          · exact hy
          · exact ih h (by simp) x hx
        · exact ih p (by simp [hp]) x hx
/-- One piece more: from the last cut up to an occurrence; and the last one. -/
theorem cut_step {c : UInt8} {l : List UInt8} {a b : Nat} (hab : a ≤ b) (hb : b < l.length) (hc : l[b] = c) (hno : ∀ x ∈ (l.drop a).take (b - a), x ≠ c) : cut c (l.drop a) = (l.drop a).take (b - a) :: cut c (l.drop (b + 1)) := by
  have e : l.drop a = (l.drop a).take (b - a) ++ c :: l.drop (b + 1) := by
    conv => lhs; rw [← List.take_append_drop (b - a) (l.drop a), List.drop_drop]
    rw [show a + (b - a) = b by omega, List.drop_eq_getElem_cons hb, hc]
  conv => lhs; rw [e]
  exact cut_hit c _ _ hno
theorem seg_next {c : UInt8} {l : List UInt8} {a b : Nat} (hab : a ≤ b) (hb : b < l.length) (hc : l[b] ≠ c) (hno : ∀ x ∈ (l.drop a).take (b - a), x ≠ c) : ∀ x ∈ (l.drop a).take (b + 1 - a), x ≠ c := by
  rw [show b + 1 - a = (b - a) + 1 by omega, List.take_succ_eq_append_getElem (by rw [List.length_drop]; omega)]
  intro x hx
  rcases List.mem_append.1 hx with hx | hx
  · exact hno x hx
  · simp only [List.mem_singleton, List.getElem_drop] at hx
    subst hx
    have : a + (b - a) = b := by omega
    simpa [this] using hc
theorem extract_list (s : ByteArray) (a b : Nat) : (s.extract a b).data.toList = (s.data.toList.drop a).take (b - a) := by
  simp
end Go.Proofs.YtpmmjaceehlpiaaGreatDoor
/-
  Decimal digits as the model's loop makes them; a byte of the call's own turned into a string. Nothing here knows of the program.
-/
namespace Go.Proofs.YtpmmjaceehlpiaaGreatDoor
open Go Go.ChangeShapes Go.WideShapes Go.ChangeAt Go.RowKit

/-- The digits that are still to come: none of 0. -/
def digs (u : Nat) : List UInt8 := if u = 0 then [] else Lib.decDigits u
theorem digs_zero : digs 0 = [] := rfl
theorem digs_pos {u : Nat} (h : 0 < u) : digs u = Lib.decDigits u := by unfold digs; rw [if_neg (by omega)]
theorem digs_next {u : Nat} (h : 0 < u) : digs u = digs (u / 10) ++ [UInt8.ofNat (48 + u % 10)] := by
  by_cases h10 : u < 10
  · rw [digs_pos h, Lib.decDigits_one h10, show u / 10 = 0 by omega, digs_zero, show u % 10 = u by omega]
    rfl
  · rw [digs_pos h, digs_pos (show 0 < u / 10 by omega), Lib.decDigits, dif_neg h10]

theorem digs_length : ∀ (k u : Nat), u ≤ k → (digs u).length ≤ u
  | 0, u, h => by
    obtain rfl : u = 0 := by omega
    simp [digs_zero]
  | k + 1, u, h => by
    by_cases h0 : 0 < u
    · have ih := digs_length k (u / 10) (by omega)
      rw [digs_next h0, List.length_append, List.length_singleton]
      omega
    · obtain rfl : u = 0 := by omega
      simp [digs_zero]
/-- While digits are still to come, one more fits. -/
theorem digs_room {u N : Nat} {l : List UInt8} (h0 : 0 < u) (h : digs u ++ l = digs N) : 1 + l.length ≤ N / 10 + 1 := by
  have h1 := congrArg List.length h
  rw [digs_next h0, List.length_append, List.length_append, List.length_singleton] at h1
  by_cases hN : 0 < N
  · rw [digs_next hN, List.length_append, List.length_singleton] at h1
    have h2 := digs_length (N / 10) (N / 10) (Nat.le_refl _)
    omega
  · obtain rfl : N = 0 := by omega
    simp [digs_zero] at h1
theorem bytes_cons (x : UInt8) (l : List UInt8) : (⟨#[x]⟩ : ByteArray) ++ ⟨l.toArray⟩ = ⟨(x :: l).toArray⟩ := by
  apply ByteArray.ext
  simp

theorem byte_split (k : Nat) : UInt8.ofNat (48 + k) = 48 + UInt8.ofNat k := by
  simp

theorem tmod_neg (u : Nat) : (-(u : Int)).tmod 10 = -((u % 10 : Nat) : Int) := by
  rw [Int.neg_tmod, Int.tmod_eq_emod_of_nonneg (by omega)]
  omega
theorem tdiv_neg (u : Nat) : (-(u : Int)).tdiv 10 = -((u / 10 : Nat) : Int) := by
  rw [Int.neg_tdiv, Int.tdiv_eq_ediv_of_nonneg (by omega)]
  omega

/-- string of one byte that was just made. -/
theorem conv_byte {P : Program} {src dst e : TypeId} (hs : P.underlying src = some (.slice e)) (he : P.underlying e = some (.int .u8)) (hd : P.underlying dst = some .string) (W : World) (x : Nat) (hx : x < 256) :
    (convert src dst (.slice (some ⟨W.heap.size, 0, none⟩) 1 1)).run P (W.alloc (.cells #[.int .u8 (x : Int)] e)) = .ok (.string ⟨#[UInt8.ofNat x]⟩) (W.alloc (.cells #[.int .u8 (x : Int)] e)) := by
  have h := run_convert_bytes_back (P := P) (W.alloc (.cells #[.int .u8 (x : Int)] e)) src dst e ⟨W.heap.size, 0, none⟩ 1 [UInt8.ofNat x] hs he hd (fun j hj => by
    have : j = 0 := by simpa using hj
    subst this
    have hn : (UInt8.ofNat x).toNat = x := by simp; omega
    rw [add_plain]
    simp only [List.getElem_cons_zero, hn, Nat.zero_add]
    exact World.cell?_alloc_at _ _ _ _ rfl)
  exact h
end Go.Proofs.YtpmmjaceehlpiaaGreatDoor
/-
  What joining gives, as lists of bytes; a slice of the call's own bytes read as a string. Nothing here knows of the program.
-/
namespace Go.Proofs.YtpmmjaceehlpiaaGreatDoor
open Go Go.RowKit

/-- The strings one after the other, the separator between them. -/
def jn (ss : List ByteArray) (sep : ByteArray) : List UInt8 := Lib.join (ss.map (·.data.toList)) sep.data.toList

theorem jn_nil (sep : ByteArray) : jn [] sep = [] := rfl
theorem jn_one (x sep : ByteArray) : jn [x] sep = x.data.toList := Lib.join_one _ _
theorem jn_snoc (y : ByteArray) (l : List ByteArray) (x sep : ByteArray) : jn ((y :: l) ++ [x]) sep = jn (y :: l) sep ++ sep.data.toList ++ x.data.toList := by
  simp [jn, Lib.join_cons, Lib.joinTail, List.append_assoc]
theorem size_toList (s : ByteArray) : s.data.toList.length = s.size := by simp
theorem lens_total (ss : List ByteArray) : Lib.lens (ss.map (·.data.toList)) = total ss := by
  induction ss with
  | nil => rfl
  | cons s r ih =>
    simp only [Lib.lens, total, List.map_cons, List.map_map, List.sum_cons] at ih ⊢
    rw [ih, size_toList]
theorem jn_length (ss : List ByteArray) (sep : ByteArray) : (jn ss sep).length ≤ ss.length * sep.size + total ss := by
  cases ss with
  | nil => simp [jn_nil]
  | cons s r =>
    have h := Lib.join_length s.data.toList (r.map (·.data.toList)) sep.data.toList
    have h2 := lens_total (s :: r)
    rw [List.map_cons] at h2
    rw [h2, List.length_map, size_toList] at h
    rw [jn, List.map_cons, h, List.length_cons, Nat.add_mul, Nat.one_mul, Nat.mul_comm]
    omega
theorem jn_next (ss : List ByteArray) (sep : ByteArray) (k : Nat) (h : k < ss.length) (h0 : 0 < k) : jn (ss.take (k + 1)) sep = jn (ss.take k) sep ++ sep.data.toList ++ ss[k].data.toList := by
  rw [take_next ss k h]
  match hss : ss.take k with
  | [] =>
    have := congrArg List.length hss
    rw [List.length_take, List.length_nil] at this
    omega
  | y :: l => exact jn_snoc y l ss[k] sep
theorem jn_first (ss : List ByteArray) (sep : ByteArray) (h : 0 < ss.length) : jn (ss.take 1) sep = ss[0].data.toList := by
  rw [take_next ss 0 h]
  exact jn_one _ _

theorem total_take (ss : List ByteArray) (k : Nat) : total (ss.take k) ≤ total ss := by
  have h := total_append (ss.take k) (ss.drop k)
  rw [List.take_append_drop] at h
  omega
theorem jn_bound (ss : List ByteArray) (sep : ByteArray) (k : Nat) : (jn (ss.take k) sep).length ≤ ss.length * sep.size + total ss := by
  have h1 := jn_length (ss.take k) sep
  have h2 := total_take ss k
  have h3 : (ss.take k).length * sep.size ≤ ss.length * sep.size := Nat.mul_le_mul_right _ (by rw [List.length_take]; omega)
  omega

/-- string(b), b bytes of the call's own. -/
theorem string_owned {P : Program} {w : World} {base e n : Nat} {v : Value} {l : List UInt8} (src dst : TypeId) (hs : P.underlying src = some (.slice e)) (he : P.underlying e = some (.int .u8)) (hd : P.underlying dst = some .string)
    (h : w.ownsRow base e 1 v n (Lib.byteCells l)) : (convert src dst v).run P w = .ok (.string ⟨l.toArray⟩) w := by
  have hl := h.1
  rw [Lib.byteCells_length, Nat.mul_one] at hl
  rcases h.2 with ⟨rfl, hn⟩ | ⟨g, cap, cur, rfl, _, _, _⟩
  · have : l = [] := List.eq_nil_of_length_eq_zero (by omega)
    subst this
    rw [run_convert_bytes_string w src dst e none 0 0 hs he hd]
    rfl
  · have hc := h.cells (g := g) rfl
    rw [← hl]
    refine run_convert_bytes_back w src dst e ⟨g, 0, none⟩ cap l hs he hd fun j hj => hc j _ ?_
    simp [Lib.byteCells, List.getElem?_eq_getElem hj]
end Go.Proofs.YtpmmjaceehlpiaaGreatDoor
/-
  A new row of strings that a call makes: its end, and what an append to it asks.
-/
namespace Go.Proofs.YtpmmjaceehlpiaaGreatDoor
open Go Go.RowKit

theorem strInfoW : (Tryz.prog.info? 9).map (fun i => (i.zero, i.size, i.bytes)) = some (some (.string ⟨#[]⟩), 1, 16) := by kernel_rfl

/-- A new row that holds these strings. -/
def StrsEnd (ss : List ByteArray) (w : World) (e : Ending) (w' : World) : Prop :=
  ∃ a cap, e = .returned (.slice a ss.length cap) ∧ ss.length ≤ cap ∧ w'.ownsRow w.heap.size 9 1 (.slice a ss.length cap) ss.length (strVals ss) ∧ Below w.heap.size w w'
theorem strs_end {w w' : World} {v : Value} {n : Nat} {ss : List ByteArray} (hn : n = ss.length) (h : w'.ownsRow w.heap.size 9 1 v n (strVals ss)) (hb : Below w.heap.size w w') : StrsEnd ss w (.returned v) w' := by
  subst hn
  rcases h.2 with ⟨rfl, h0⟩ | ⟨g, cap, cur, rfl, hbg, hg, hnc, hcm, hcs, ht⟩
  · refine ⟨none, 0, ?_, by omega, ?_, hb⟩
    · rw [h0]
    · rw [h0] at h ⊢
      exact h
  · exact ⟨_, cap, rfl, hnc, h, hb⟩
theorem cell_one {w : World} {e : TypeId} (x : Value) : ∀ (j : Nat) (u : Value), [x][j]? = some u → (w.alloc (.cells #[x] e)).cell? ((⟨w.heap.size, 0, none⟩ : Addr).add j) = some u := by
  intro j u hu
  match j, hu with
  | 0, hu =>
    simp at hu
    subst hu
    simp [Addr.add]
  | j + 1, hu => simp at hu
theorem string_oneCell (x : ByteArray) : ∀ u ∈ [Value.string x], u.oneCell' = true := by
  intro u hu
  simp at hu
  subst hu
  rfl
end Go.Proofs.YtpmmjaceehlpiaaGreatDoor
/-
  The law's own copy of a []string: a new row with the same strings.
-/
namespace Go.Proofs.YtpmmjaceehlpiaaGreatDoor
open Go Go.RowKit

theorem strInfo : (Tryz.prog.info? 9).map (fun i => (i.zero, i.size, i.bytes)) = some (some (.string ⟨#[]⟩), 1, 16) := by kernel_rfl

/-- A new slice at the heap's end that holds the strings; nothing old has turned. -/
def CopyEnd (ss : List ByteArray) (w : World) (e : Ending) (w' : World) : Prop :=
  e = .returned (.slice (some ⟨w.heap.size, 0, none⟩) ss.length ss.length) ∧ w'.ownsRow w.heap.size 9 1 (.slice (some ⟨w.heap.size, 0, none⟩) ss.length ss.length) ss.length (strVals ss) ∧ Below w.heap.size w w'

theorem set_take {α : Type} (ys : List α) (k : Nat) (x : α) (h : k < ys.length) : (ys.set k x).take (k + 1) = ys.take k ++ [x] := by
  rw [List.take_succ_eq_append_getElem (by simpa using h)]
  simp [List.take_set_of_le]

set_option maxHeartbeats 400000 in
theorem toStrs (a : Option Addr) (cap : Nat) (ss : List ByteArray) (w : World) (hn : ss.length ≤ 1099511627776) (hrow : Row w w.heap.size a (strVals ss)) :
    Calls Tryz.prog 76 #[.slice a ss.length cap] w (CopyEnd ss w) := by
  obtain ⟨i0, hi, hz0, hz1, hz2⟩ := info_parts strInfo
  go_enter Tryz.func76, Tryz.ntmps76
  go_wp2_with (at_make; refine wpList_make_full _ rfl _ _ 24 rfl w.heap.size 9 i0 (.string ⟨#[]⟩) 1 Tryz.underlying24 hi hz0 hz1 _ _ _ _ ss.length rfl rfl rfl rfl ?b2 ?b3 (Nat.le_refl _) ?_)
  case b2 => rw [hz2]; omega
  case b3 => unfold maxLen; omega
  intro w0 hown0 hgrow0
  go_wp2
  go_loopw [4] (fun i wr => ∃ (k : Nat) (ys : List Value), k ≤ ss.length ∧ i = .int .i64 k ∧ ys.take k = strVals (ss.take k) ∧ ys.length = ss.length ∧
      wr.ownsRow w.heap.size 9 1 (.slice (some ⟨w.heap.size, 0, none⟩) ss.length ss.length) ss.length ys ∧ Below w.heap.size w wr)
    (fun i _ => ss.length - (intOf i).toNat)
  case atStart => exact ⟨0, _, Nat.zero_le _, rfl, by simp [strVals], by simpa using hown0.1, hown0, (Below.refl _ _).grown hgrow0 (Nat.le_refl _) (fun k h => by cases h)⟩
  case round =>
    obtain ⟨k, ys, hk, rfl, hys, hyl, hown, hb⟩ := hrel
    by_cases hlt : k < ss.length
    · obtain ⟨b, o, rfl, hbW, hc⟩ := hrow k (.string ss[k]) (by simp [strVals, hlt])
      have hc1 : wr.cell? ⟨b, o + k, none⟩ = some (.string ss[k]) := (hb.cell (p := ⟨b, o + k, none⟩) hbW).trans hc
      obtain ⟨old, hold⟩ : ∃ old, wr.cell? ⟨w.heap.size, k, none⟩ = some old := ⟨_, (hown.cellAt k (by omega)).trans (List.getElem?_eq_getElem (by omega))⟩
      have hfr := hown.frozenAt k
      have hst := hown.stored k (.string ss[k])
      have Hys := Lib.hid hys
      have Hyl := Lib.hid hyl
      have hklt : k < ys.length := by omega
      clear hys hyl hown hc
      go_wp2
      go_roundw
      case rel => exact ⟨k + 1, ys.set k (.string ss[k]), by omega, by go_num, by rw [set_take ys k _ hklt, Hys.out, take_next ss k hlt]; exact (strVals_snoc _ _).symm, by rw [List.length_set]; exact Hyl.out, hst.1, hb.setCell (by exact Nat.le_refl _) _⟩
      case measure => simp [intOf]; omega
    · have hk' : k = ss.length := by omega
      have Hk := Lib.hid hk'
      have Hys := Lib.hid hys
      have Hyl := Lib.hid hyl
      clear hk' hys hyl
      go_wp2
      go_ret
      have hfull : ys = strVals ss := by
        have h1 := Hys.out
        rw [Hk.out, List.take_length, List.take_of_length_le (by rw [Hyl.out]; exact Nat.le_refl _)] at h1
        exact h1
      rw [hfull] at hown
      exact ⟨rfl, hown, hb⟩
end Go.Proofs.YtpmmjaceehlpiaaGreatDoor
/-
  Joining what was cut restores it; a piece holds no separator. Nothing here knows of the program.
-/
namespace Go.Proofs.YtpmmjaceehlpiaaGreatDoor
open Go

theorem join_cut (c : UInt8) : ∀ l : List UInt8, Lib.join (cut c l) [c] = l
  | [] => rfl
  | x :: r => by
    have ih := join_cut c r
    match hc : cut c r with
    | [] => exact absurd hc (cut_ne c r)
    | h :: t =>
      rw [hc, Lib.join_cons] at ih
      unfold cut
      by_cases hx : x = c
      · rw [if_pos hx, hc, Lib.join_cons, hx, ← ih]
        simp [Lib.joinTail]
      · rw [if_neg hx, hc]
        show Lib.join ((x :: h) :: t) [c] = x :: r
        rw [Lib.join_cons, ← ih]
        rfl
theorem pieces_lists (c : UInt8) (s : ByteArray) : (pieces c s).map (·.data.toList) = cut c s.data.toList := by
  rw [pieces, List.map_map]
  conv => rhs; rw [← List.map_id (cut c s.data.toList)]
  rfl
theorem jn_pieces (c : UInt8) (s : ByteArray) : jn (pieces c s) ⟨#[c]⟩ = s.data.toList := by
  rw [jn, pieces_lists]
  exact join_cut c _
theorem joined_back (c : UInt8) (s : ByteArray) : (⟨(jn (pieces c s) ⟨#[c]⟩).toArray⟩ : ByteArray) = s := by
  rw [jn_pieces]
theorem total_pieces (c : UInt8) (s : ByteArray) : total (pieces c s) ≤ s.size := by
  have h := jn_pieces c s
  have h2 := lens_total (pieces c s)
  rw [jn] at h
  match hp : (pieces c s).map (·.data.toList) with
  | [] =>
    rw [hp] at h2
    rw [← h2]
    simp [Lib.lens]
  | x :: r =>
    rw [hp] at h h2
    have h3 := Lib.join_length x r [c]
    have h4 : (Lib.join (x :: r) [c]).length = s.size := by
      have : Lib.join (x :: r) [c] = s.data.toList := h
      rw [this]
      simp
    rw [← h2]
    omega
theorem pieces_whole (c : UInt8) (s p : ByteArray) (h : p ∈ pieces c s) : (pieces c p).length = 1 := by
  obtain ⟨l, hl, rfl⟩ := List.mem_map.1 h
  rw [pieces, mkS_toList, cut_none c l (cut_pieces c _ l hl)]
  rfl
theorem mem_total (p : ByteArray) : ∀ ss : List ByteArray, p ∈ ss → p.size ≤ total ss
  | [], h => by simp at h
  | q :: r, h => by
    have e : total (q :: r) = q.size + total r := by simp [total]
    rw [e]
    rcases List.mem_cons.1 h with rfl | h
    · omega
    · have := mem_total p r h
      omega
theorem piece_size (c : UInt8) (s p : ByteArray) (h : p ∈ pieces c s) : p.size ≤ s.size := by
  have h1 := total_pieces c s
  have h2 := mem_total p _ h
  omega
end Go.Proofs.YtpmmjaceehlpiaaGreatDoor
/-
  Decimal numerals as lists of bytes: their value, that reading undoes writing, what the model's reader and the program's reader come to. Nothing here knows of the program.
-/
namespace Go.Proofs.YtpmmjaceehlpiaaGreatDoor
open Go

def isDig (c : UInt8) : Bool := decide (48 ≤ c.toNat ∧ c.toNat ≤ 57)
def dstep (a : Nat) (c : UInt8) : Nat := 10 * a + (c.toNat - 48)
/-- The value of a row of digits. -/
def dval (l : List UInt8) : Nat := l.foldl dstep 0
theorem dval_snoc (l : List UInt8) (c : UInt8) : dval (l ++ [c]) = 10 * dval l + (c.toNat - 48) := by simp [dval, dstep]
theorem ofNat_digit (k : Nat) (h : k < 10) : (UInt8.ofNat (48 + k)).toNat = 48 + k := by simp; omega
theorem digs_dval : ∀ (k u : Nat), u ≤ k → dval (digs u) = u
  | 0, u, h => by
    obtain rfl : u = 0 := by omega
    rfl
  | k + 1, u, h => by
    by_cases h0 : 0 < u
    · rw [digs_next h0, dval_snoc, digs_dval k (u / 10) (by omega), ofNat_digit _ (by omega)]
      omega
    · obtain rfl : u = 0 := by omega
      rfl
theorem digs_all : ∀ (k u : Nat), u ≤ k → (digs u).all isDig = true
  | 0, u, h => by
    obtain rfl : u = 0 := by omega
    rfl
  | k + 1, u, h => by
    by_cases h0 : 0 < u
    · rw [digs_next h0, List.all_append, digs_all k (u / 10) (by omega)]
      have := ofNat_digit (u % 10) (by omega)
      simp only [List.all_cons, List.all_nil, Bool.and_true, Bool.true_and, isDig, this, decide_eq_true_eq]
      omega
    · obtain rfl : u = 0 := by omega
      rfl
theorem digs_len : ∀ (k u : Nat), u < 10 ^ k → (digs u).length ≤ k
  | 0, u, h => by
    obtain rfl : u = 0 := by simpa using h
    simp [digs_zero]
  | k + 1, u, h => by
    by_cases h0 : 0 < u
    · have h2 : u / 10 < 10 ^ k := by rw [Nat.pow_succ] at h; omega
      have := digs_len k (u / 10) h2
      rw [digs_next h0, List.length_append, List.length_singleton]
      omega
    · obtain rfl : u = 0 := by omega
      simp [digs_zero]
theorem dec_zero : Lib.decDigits 0 = [48] := by rw [Lib.decDigits_one (by omega)]; rfl
theorem dec_dval (u : Nat) : dval (Lib.decDigits u) = u := by
  by_cases h : 0 < u
  · rw [← digs_pos h]; exact digs_dval u u (Nat.le_refl _)
  · obtain rfl : u = 0 := by omega
    rw [dec_zero]; rfl
theorem dec_all (u : Nat) : (Lib.decDigits u).all isDig = true := by
  by_cases h : 0 < u
  · rw [← digs_pos h]; exact digs_all u u (Nat.le_refl _)
  · obtain rfl : u = 0 := by omega
    rw [dec_zero]; rfl
theorem dec_len (u k : Nat) (hk : 0 < k) (h : u < 10 ^ k) : (Lib.decDigits u).length ≤ k := by
  by_cases h0 : 0 < u
  · rw [← digs_pos h0]; exact digs_len k u h
  · obtain rfl : u = 0 := by omega
    rw [dec_zero]; simp; omega
theorem dec_ne (u : Nat) : Lib.decDigits u ≠ [] := by
  by_cases h0 : 0 < u
  · rw [← digs_pos h0, digs_next h0]; simp
  · obtain rfl : u = 0 := by omega
    rw [dec_zero]; simp
theorem dec_head (u : Nat) : (Lib.decDigits u).head? ≠ some 45 := by
  intro h
  have hm := List.mem_of_head? h
  have := List.all_eq_true.1 (dec_all u) _ hm
  simp [isDig] at this

theorem dval_lt : ∀ (l : List UInt8), l.all isDig = true → dval l < 10 ^ l.length := by
  intro l
  have h : ∀ (l : List UInt8) (a : Nat), l.all isDig = true → l.foldl dstep a < (a + 1) * 10 ^ l.length := by
    intro l
    induction l with
    | nil => intro a _; simp
    | cons c r ih =>
      intro a hall
      simp only [List.all_cons, Bool.and_eq_true] at hall
      have hc := hall.1
      simp only [isDig, decide_eq_true_eq] at hc
      have := ih (dstep a c) hall.2
      simp only [List.foldl_cons, List.length_cons]
      refine Nat.lt_of_lt_of_le this ?_
      rw [Nat.pow_succ, Nat.mul_comm (10 ^ r.length) 10, ← Nat.mul_assoc]
      refine Nat.mul_le_mul_right _ ?_
      unfold dstep
      omega
  intro hall
  simpa [dval] using h l 0 hall

/-- What the model's reader comes to. -/
def bodyOf (l : List UInt8) : List UInt8 := if l.head? = some 45 then l.tail else l
def valOf (l : List UInt8) : Int := if l.head? = some 45 then -(dval (bodyOf l) : Int) else dval (bodyOf l)
def goodFor (most : Nat) (l : List UInt8) : Bool := decide (1 ≤ (bodyOf l).length ∧ (bodyOf l).length ≤ most ∧ (bodyOf l).all isDig = true ∧ Lib.itoa (valOf l) = l)

theorem itoa_neg (u : Nat) (h : 1 ≤ u) : Lib.itoa (-(u : Int)) = 45 :: Lib.decDigits u := by unfold Lib.itoa; rw [if_pos (by omega)]; simp
theorem itoa_nat (u : Nat) : Lib.itoa (u : Int) = Lib.decDigits u := by unfold Lib.itoa; rw [if_neg (by omega)]; simp

/-- A numeral is read as what was written. -/
theorem good_itoa (n : Int) (most : Nat) (hm : 0 < most) (h : n.natAbs < 10 ^ most) : goodFor most (Lib.itoa n) = true ∧ valOf (Lib.itoa n) = n := by
  rcases Int.lt_or_le n 0 with hn | hn
  · obtain ⟨u, rfl, hu⟩ : ∃ u : Nat, n = -(u : Int) ∧ 1 ≤ u := ⟨n.natAbs, by omega, by omega⟩
    have h2 : u < 10 ^ most := by simpa using h
    have e1 : bodyOf (Lib.itoa (-(u : Int))) = Lib.decDigits u := by rw [itoa_neg u hu]; rfl
    have e2 : valOf (Lib.itoa (-(u : Int))) = -(u : Int) := by
      unfold valOf
      rw [e1, dec_dval, itoa_neg u hu]
      simp
    refine ⟨?_, e2⟩
    have h1 : 1 ≤ (Lib.decDigits u).length := List.length_pos_iff.2 (dec_ne u)
    simp only [goodFor, e1, e2, dec_all, decide_eq_true_eq]
    exact ⟨h1, dec_len u most hm h2, trivial, trivial⟩
  · obtain ⟨u, rfl⟩ : ∃ u : Nat, n = (u : Int) := ⟨n.natAbs, by omega⟩
    have h2 : u < 10 ^ most := by simpa using h
    have e1 : bodyOf (Lib.itoa (u : Int)) = Lib.decDigits u := by rw [itoa_nat, bodyOf, if_neg (dec_head u)]
    have e2 : valOf (Lib.itoa (u : Int)) = (u : Int) := by
      unfold valOf
      rw [e1, dec_dval, itoa_nat, if_neg (dec_head u)]
    refine ⟨?_, e2⟩
    have h1 : 1 ≤ (Lib.decDigits u).length := List.length_pos_iff.2 (dec_ne u)
    simp only [goodFor, e1, e2, dec_all, decide_eq_true_eq]
    exact ⟨h1, dec_len u most hm h2, trivial, trivial⟩
theorem good_val {most : Nat} {l : List UInt8} (h : goodFor most l = true) : Lib.itoa (valOf l) = l ∧ (valOf l).natAbs < 10 ^ most := by
  simp only [goodFor, decide_eq_true_eq] at h
  refine ⟨h.2.2.2, ?_⟩
  have h1 := dval_lt (bodyOf l) h.2.2.1
  have h2 : 10 ^ (bodyOf l).length ≤ 10 ^ most := Nat.pow_le_pow_right (by omega) h.2.1
  have h3 : (valOf l).natAbs = dval (bodyOf l) := by unfold valOf; split <;> simp
  omega

/-- What the library's reader comes to at a numeral. -/
theorem parse_small : ∀ (l : List UInt8) (a : Nat), l.all isDig = true → l.foldl dstep a < 1000000000000000000 → Lib.parseUint10 a l = .ok (l.foldl dstep a)
  | [], a, _, _ => rfl
  | c :: r, a, hall, h => by
    simp only [List.all_cons, Bool.and_eq_true] at hall
    have hc := hall.1
    simp only [isDig, decide_eq_true_eq] at hc
    have hmono : ∀ (r : List UInt8) (a : Nat), a ≤ r.foldl dstep a := by
      intro r
      induction r with
      | nil => intro a; exact Nat.le_refl _
      | cons x r ih => intro a; exact Nat.le_trans (by unfold dstep; omega) (ih (dstep a x))
    have h1 : dstep a c < 1000000000000000000 := Nat.lt_of_le_of_lt (hmono r _) h
    have h2 : a * 10 + (c.toNat - 48) = dstep a c := by unfold dstep; omega
    simp only [Lib.parseUint10, List.foldl_cons]
    rw [if_pos hc, if_neg (by unfold dstep at h1; omega), h2, if_neg (by omega)]
    exact parse_small r _ hall.2 h
theorem mag_dec (u : Nat) (h : u < 1000000000000000000) : Lib.parseMag (Lib.decDigits u) = .ok u := by
  unfold Lib.parseMag
  rw [if_neg (dec_ne u)]
  have hv : (Lib.decDigits u).foldl dstep 0 = u := dec_dval u
  rw [parse_small _ 0 (dec_all u) (by rw [hv]; exact h), hv]
theorem atoi_itoa (n : Int) (h : n.natAbs < 1000000000000000000) : Lib.atoiAll (Lib.itoa n) = .ok n := by
  rcases Int.lt_or_le n 0 with hn | hn
  · obtain ⟨u, rfl, hu⟩ : ∃ u : Nat, n = -(u : Int) ∧ 1 ≤ u := ⟨n.natAbs, by omega, by omega⟩
    have h2 : u < 1000000000000000000 := by simpa using h
    rw [itoa_neg u hu]
    simp [Lib.atoiAll, mag_dec u h2]
    omega
  · obtain ⟨u, rfl⟩ : ∃ u : Nat, n = (u : Int) := ⟨n.natAbs, by omega⟩
    have h2 : u < 1000000000000000000 := by simpa using h
    rw [itoa_nat]
    match hd : Lib.decDigits u with
    | [] => exact absurd hd (dec_ne u)
    | c :: r =>
      have hc := dec_all u
      rw [hd, List.all_cons, Bool.and_eq_true] at hc
      have hc1 := hc.1
      simp only [isDig, decide_eq_true_eq] at hc1
      have hm := mag_dec u h2
      rw [hd] at hm
      simp only [Lib.atoiAll]
      rw [if_neg (by omega), hm]
      simp only []
      rw [if_neg (by omega), if_neg (by omega), if_neg (by omega)]

/-- The string is the numeral of a number from lo to hi. -/
def numN (lo hi : Int) (l : List UInt8) : Bool := goodFor 12 l && (decide (lo ≤ valOf l) && decide (valOf l ≤ hi))
theorem good_abs {most : Nat} (hm : most ≤ 12) {l : List UInt8} (h : goodFor most l = true) : (valOf l).natAbs < 1000000000000 := by
  have h1 := (good_val h).2
  have h2 : 10 ^ most ≤ 10 ^ 12 := Nat.pow_le_pow_right (by omega) hm
  omega
theorem num_int (l : List UInt8) : numN (-999999999999) 999999999999 l = goodFor 12 l := by
  unfold numN
  cases h : goodFor 12 l with
  | false => rfl
  | true =>
    have := good_abs (Nat.le_refl 12) h
    simp only [Bool.true_and, Bool.and_eq_true, decide_eq_true_eq]
    omega
theorem num_number (l : List UInt8) : numN 0 999999 l = (goodFor 6 l && decide (0 ≤ valOf l)) := by
  rw [Bool.eq_iff_iff]
  simp only [numN, Bool.and_eq_true, decide_eq_true_eq]
  constructor
  · rintro ⟨h, h0, h1⟩
    refine ⟨?_, h0⟩
    have hg := good_itoa (valOf l) 6 (by omega) (by omega)
    rw [(good_val h).1] at hg
    exact hg.1
  · rintro ⟨h, h0⟩
    have hv := (good_val h).2
    have hg := good_itoa (valOf l) 12 (by omega) (by omega)
    rw [(good_val h).1] at hg
    exact ⟨hg.1, h0, by omega⟩
theorem atoi_num {lo hi : Int} {l : List UInt8} (h : numN lo hi l = true) : Lib.atoiAll l = .ok (valOf l) ∧ lo ≤ valOf l ∧ valOf l ≤ hi ∧ Lib.itoa (valOf l) = l := by
  simp only [numN, Bool.and_eq_true, decide_eq_true_eq] at h
  have h1 := good_val h.1
  have h2 := atoi_itoa (valOf l) (by have := good_abs (Nat.le_refl 12) h.1; omega)
  rw [h1.1] at h2
  exact ⟨h2, h.2.1, h.2.2, h1.1⟩
theorem num_atoi {lo hi v : Int} {l : List UInt8} (hlo : -999999999999 ≤ lo) (hhi : hi ≤ 999999999999) (h0 : lo ≤ v) (h1 : v ≤ hi) (h : Lib.itoa v = l) : numN lo hi l = true := by
  have hg := good_itoa v 12 (by omega) (by omega)
  rw [h] at hg
  simp only [numN, Bool.and_eq_true, decide_eq_true_eq, hg.1, hg.2, true_and]
  exact ⟨h0, h1⟩

/-- Written and read: how many digits decide. -/
theorem val_itoa (n : Int) : valOf (Lib.itoa n) = n ∧ bodyOf (Lib.itoa n) = Lib.decDigits n.natAbs := by
  rcases Int.lt_or_le n 0 with hn | hn
  · obtain ⟨u, rfl, hu⟩ : ∃ u : Nat, n = -(u : Int) ∧ 1 ≤ u := ⟨n.natAbs, by omega, by omega⟩
    have e1 : bodyOf (Lib.itoa (-(u : Int))) = Lib.decDigits u := by rw [itoa_neg u hu]; rfl
    refine ⟨?_, by rw [e1]; simp⟩
    unfold valOf
    rw [e1, dec_dval, itoa_neg u hu]
    simp
  · obtain ⟨u, rfl⟩ : ∃ u : Nat, n = (u : Int) := ⟨n.natAbs, by omega⟩
    have e1 : bodyOf (Lib.itoa (u : Int)) = Lib.decDigits u := by rw [itoa_nat, bodyOf, if_neg (dec_head u)]
    refine ⟨?_, by rw [e1]; simp⟩
    unfold valOf
    rw [e1, dec_dval, itoa_nat, if_neg (dec_head u)]
theorem good_dec (n : Int) (most : Nat) : goodFor most (Lib.itoa n) = decide ((Lib.decDigits n.natAbs).length ≤ most) := by
  have h1 : 1 ≤ (Lib.decDigits n.natAbs).length := List.length_pos_iff.2 (dec_ne _)
  simp [goodFor, val_itoa n, dec_all, h1]
theorem itoa_len (n : Int) : (Lib.itoa n).length = (Lib.decDigits n.natAbs).length + if n < 0 then 1 else 0 := by
  unfold Lib.itoa
  split
  · simp
  · rw [show n.toNat = n.natAbs by omega]
    rfl
/-- What the law asks of ParseInt on FormatInt's text. -/
theorem num_itoa (n : Int) : numN (-999999999999) 999999999999 (Lib.itoa n) = (decide ((Lib.itoa n).length ≤ 12) || (decide (n < 0) && decide ((Lib.itoa n).length ≤ 13))) := by
  rw [num_int, good_dec, itoa_len, Bool.eq_iff_iff]
  simp only [Bool.or_eq_true, Bool.and_eq_true, decide_eq_true_eq]
  split <;> omega
end Go.Proofs.YtpmmjaceehlpiaaGreatDoor
/-
  The model's FormatInt: for every int it returns the decimal digits, behind '-' where it is negative.
-/
namespace Go.Proofs.YtpmmjaceehlpiaaGreatDoor
open Go Go.RowKit

def NumeralEnd (n : Int) (w : World) (e : Ending) (w' : World) : Prop := e = .returned (.string ⟨(Lib.itoa n).toArray⟩) ∧ Below w.heap.size w w'

theorem specFormat_zero (w : World) : Calls Tryz.prog 162 #[.int .i64 0] w (NumeralEnd 0 w) := by
  go_enter Tryz.func162, Tryz.ntmps162
  go_wp2
  go_ret
  exact ⟨by rw [show Lib.itoa 0 = [48] from by simp [Lib.itoa, Lib.decDigits]]; rfl, Below.refl _ _⟩

theorem bytes_next (k : Nat) (l : List UInt8) : Value.string ((⟨#[48 + UInt8.ofNat k]⟩ : ByteArray) ++ ⟨l.toArray⟩) = Value.string ⟨(UInt8.ofNat (48 + k) :: l).toArray⟩ := by
  rw [byte_split]
  exact congrArg Value.string (bytes_cons _ l)

set_option maxRecDepth 100000 in
set_option maxHeartbeats 400000 in
theorem specFormat_pos (N : Nat) (h0 : 0 < N) (h1 : N ≤ 9223372036854775807) (w : World) :
    Calls Tryz.prog 162 #[.int .i64 N] w (NumeralEnd N w) := by
  have hz : ((N : Int) == 0) = false := by simp; omega
  have hn : decide ((N : Int) < 0) = false := by simp
  go_enter Tryz.func162, Tryz.ntmps162
  go_wp2
  go_loopw [0, 4, 5] (fun n out d wr => ∃ (u : Nat) (l : List UInt8), u ≤ N ∧ n = .int .i64 u ∧ out = .string ⟨l.toArray⟩ ∧ digs u ++ l = digs N ∧ Below w.heap.size w wr) (fun n _ _ _ => (intOf n).toNat)
  case atStart => exact ⟨N, [], Nat.le_refl _, rfl, rfl, by simp, Below.refl _ _⟩
  case round =>
    obtain ⟨u, l, hu, rfl, rfl, hd, hb⟩ := hrel
    by_cases hlt : 0 < u
    · have hnx := digs_next hlt
      have hroom := digs_room hlt hd
      have hl : 1 + l.length ≤ 9223372036854775807 := by omega
      have Hd := Lib.hid hd
      have Hnx := Lib.hid hnx
      clear hd hnx hroom
      have hne : ((u : Int) != 0) = true := by simp; omega
      have kc : ∀ W : World, (convert 22 9 (.slice (some ⟨W.heap.size, 0, none⟩) 1 1)).run Tryz.prog (W.alloc (.cells #[.int .u8 (48 + (u : Int) % 10)] 5)) = .ok (.string ⟨#[UInt8.ofNat (48 + u % 10)]⟩) (W.alloc (.cells #[.int .u8 (48 + (u : Int) % 10)] 5)) := fun W => by
        have h := conv_byte (P := Tryz.prog) Tryz.underlying22 Tryz.underlying5 Tryz.underlying9 W (48 + u % 10) (by omega)
        have e : ((48 + u % 10 : Nat) : Int) = 48 + (u : Int) % 10 := by omega
        rw [e] at h
        exact h
      go_wp2
      go_roundw
      case rel => exact ⟨u / 10, UInt8.ofNat (48 + u % 10) :: l, by omega, by go_num, bytes_next _ _, by rw [← Hd.out, Hnx.out]; simp, hb.alloc hb.size _⟩
      case measure => simp [intOf]; omega
    · have hu0 : u = 0 := by omega
      subst hu0
      have Hd := Lib.hid hd
      clear hd
      have hfin : l = Lib.itoa N := by
        have h := Hd.out
        rw [digs_zero, List.nil_append, digs_pos h0] at h
        rw [h, Lib.itoa, if_neg (by omega)]
        simp
      have Hfin := Lib.hid hfin
      clear hfin
      go_wp2
      go_ret
      exact ⟨by rw [← Hfin.out]; rfl, hb⟩

set_option maxRecDepth 100000 in
set_option maxHeartbeats 400000 in
theorem specFormat_neg (N : Nat) (h0 : 0 < N) (h1 : N ≤ 9223372036854775808) (w : World) :
    Calls Tryz.prog 162 #[.int .i64 (-(N : Int))] w (NumeralEnd (-(N : Int)) w) := by
  have hz : (-(N : Int) == 0) = false := by simp; omega
  have hn : decide (-(N : Int) < 0) = true := by simp; omega
  go_enter Tryz.func162, Tryz.ntmps162
  go_wp2
  go_loopw [0, 4, 5] (fun n out d wr => ∃ (u : Nat) (l : List UInt8), u ≤ N ∧ n = .int .i64 (-(u : Int)) ∧ out = .string ⟨l.toArray⟩ ∧ digs u ++ l = digs N ∧ Below w.heap.size w wr) (fun n _ _ _ => (intOf n).natAbs)
  case atStart => exact ⟨N, [], Nat.le_refl _, rfl, rfl, by simp, Below.refl _ _⟩
  case round =>
    obtain ⟨u, l, hu, rfl, rfl, hd, hb⟩ := hrel
    by_cases hlt : 0 < u
    · have hnx := digs_next hlt
      have hroom := digs_room hlt hd
      have hl : 1 + l.length ≤ 9223372036854775807 := by omega
      have Hd := Lib.hid hd
      have Hnx := Lib.hid hnx
      clear hd hnx hroom
      have hne : (-(u : Int) != 0) = true := by simp; omega
      have hm1 := tmod_neg u
      have hm2 := tdiv_neg u
      by_cases hlast : 0 < (u : Int) % 10
      · have kc : ∀ W : World, (convert 22 9 (.slice (some ⟨W.heap.size, 0, none⟩) 1 1)).run Tryz.prog (W.alloc (.cells #[.int .u8 (48 + (u : Int) % 10)] 5)) = .ok (.string ⟨#[UInt8.ofNat (48 + u % 10)]⟩) (W.alloc (.cells #[.int .u8 (48 + (u : Int) % 10)] 5)) := fun W => by
          have h := conv_byte (P := Tryz.prog) Tryz.underlying22 Tryz.underlying5 Tryz.underlying9 W (48 + u % 10) (by omega)
          have e : ((48 + u % 10 : Nat) : Int) = 48 + (u : Int) % 10 := by omega
          rw [e] at h
          exact h
        go_wp2
        go_roundw
        case rel => exact ⟨u / 10, UInt8.ofNat (48 + u % 10) :: l, by omega, by go_num, bytes_next _ _, by rw [← Hd.out, Hnx.out]; simp, hb.alloc hb.size _⟩
        case measure => simp [intOf]; omega
      · have kc : ∀ W : World, (convert 22 9 (.slice (some ⟨W.heap.size, 0, none⟩) 1 1)).run Tryz.prog (W.alloc (.cells #[.int .u8 (48 + -((u : Int) % 10))] 5)) = .ok (.string ⟨#[UInt8.ofNat (48 + u % 10)]⟩) (W.alloc (.cells #[.int .u8 (48 + -((u : Int) % 10))] 5)) := fun W => by
          have h := conv_byte (P := Tryz.prog) Tryz.underlying22 Tryz.underlying5 Tryz.underlying9 W (48 + u % 10) (by omega)
          have e : ((48 + u % 10 : Nat) : Int) = 48 + -((u : Int) % 10) := by omega
          rw [e] at h
          exact h
        go_wp2
        go_roundw
        case rel => exact ⟨u / 10, UInt8.ofNat (48 + u % 10) :: l, by omega, by go_num, bytes_next _ _, by rw [← Hd.out, Hnx.out]; simp, hb.alloc hb.size _⟩
        case measure => simp [intOf]; omega
    · have hu0 : u = 0 := by omega
      subst hu0
      have Hd := Lib.hid hd
      clear hd
      have hlen : 1 + l.length ≤ 9223372036854775807 := by
        have h := congrArg List.length Hd.out
        rw [digs_zero, List.nil_append, digs_next h0, List.length_append, List.length_singleton] at h
        have h2 := digs_length (N / 10) (N / 10) (Nat.le_refl _)
        omega
      have hfin : 45 :: l = Lib.itoa (-(N : Int)) := by
        have h := Hd.out
        rw [digs_zero, List.nil_append, digs_pos h0] at h
        rw [h, Lib.itoa, if_pos (by omega), Int.natAbs_neg, Int.natAbs_natCast]
      have Hfin := Lib.hid hfin
      clear hfin
      go_wp2
      go_ret
      exact ⟨by rw [← Hfin.out, ← bytes_cons]; rfl, hb⟩

theorem specFormat (n : Int) (h0 : -9223372036854775808 ≤ n) (h1 : n ≤ 9223372036854775807) (w : World) :
    Calls Tryz.prog 162 #[.int .i64 n] w (NumeralEnd n w) := by
  rcases Int.lt_trichotomy n 0 with h | h | h
  · obtain ⟨N, rfl⟩ : ∃ N : Nat, n = -(N : Int) := ⟨n.natAbs, by omega⟩
    exact specFormat_neg N (by omega) (by omega) w
  · subst h
    exact specFormat_zero w
  · obtain ⟨N, rfl⟩ : ∃ N : Nat, n = (N : Int) := ⟨n.natAbs, by omega⟩
    exact specFormat_pos N (by omega) (by omega) w
end Go.Proofs.YtpmmjaceehlpiaaGreatDoor
/-
  The model's Join: it returns the strings one after the other, the separator between them.
-/
namespace Go.Proofs.YtpmmjaceehlpiaaGreatDoor
open Go Go.RowKit

theorem byteInfo : (Tryz.prog.info? 5).map (fun i => (i.zero, i.size, i.bytes)) = some (some (.int .u8 0), 1, 1) := by kernel_rfl

/-- It returned the joined bytes, and nothing old has turned. -/
def TextEnd (l : List UInt8) (w : World) (e : Ending) (w' : World) : Prop := e = .returned (.string ⟨l.toArray⟩) ∧ Below w.heap.size w w'

set_option maxHeartbeats 400000 in
theorem specJoin (a : Option Addr) (cap : Nat) (ss : List ByteArray) (sep : ByteArray) (w : World) (hn : ss.length ≤ maxLen) (hB : ss.length * sep.size + total ss ≤ 70368744177664) (hrow : Row w w.heap.size a (strVals ss)) :
    Calls Tryz.prog 161 #[.slice a ss.length cap, .string sep] w (TextEnd (jn ss sep) w) := by
  unfold maxLen at hn
  obtain ⟨i0, hi, hz0, hz1, hz2⟩ := info_parts byteInfo
  go_enter Tryz.func161, Tryz.ntmps161
  go_wp2
  go_loopw [5, 6] (fun v i wr => ∃ (k m : Nat), k ≤ ss.length ∧ i = .int .i64 k ∧ m = (jn (ss.take k) sep).length ∧ wr.ownsRow w.heap.size 5 1 v m (Lib.byteCells (jn (ss.take k) sep)) ∧ Below w.heap.size w wr)
    (fun _ i _ => ss.length - (intOf i).toNat)
  case atStart => exact ⟨0, 0, Nat.zero_le _, rfl, rfl, World.ownsRow_made w #[] 0 (Nat.le_refl _) (Nat.zero_le _) rfl, (Below.refl _ _).alloc (Nat.le_refl _) _⟩
  case round =>
    obtain ⟨k, m, hk, rfl, hm, hown, hb⟩ := hrel
    by_cases hlt : k < ss.length
    · obtain ⟨b, o, rfl, hbW, hc⟩ := hrow k (.string ss[k]) (by simp [strVals, hlt])
      have hc1 : wr.cell? ⟨b, o + k, none⟩ = some (.string ss[k]) := (hb.cell (p := ⟨b, o + k, none⟩) hbW).trans hc
      have hnext := jn_bound ss sep (k + 1)
      have Hown := Lib.hid hown
      have Hm := Lib.hid hm
      clear hown hm hc
      by_cases h0 : 0 < k
      · have hj := jn_next ss sep k hlt h0
        have hlen : m + sep.size + ss[k].size ≤ 70368744177664 := by
          rw [hj, List.length_append, List.length_append, size_toList, size_toList, ← Hm.out] at hnext
          omega
        have Hj := Lib.hid hj
        clear hj hnext
        go_wp2_with (first
          | (at_builtin; refine Lib.wpList_append_own_string _ rfl (.tmp 16) (.tmp 17) 22 9 rfl w.heap.size 5 i0 Tryz.underlying22 Tryz.underlying9 hi hz0 hz1 hz2 _ m _ rfl Hown.out sep rfl (by unfold maxLen; omega) (by omega) hb.size ?_; intro v1 w1 hown1 hg1 _; have hc2 := own_cell Hown.out hg1 (p := ⟨b, o + k, none⟩) hbW hc1; have hb1 := own_below Hown.out hg1 hb.size hb; clear hg1)
          | (at_builtin; refine Lib.wpList_append_own_string _ rfl (.tmp 19) (.tmp 23) 22 9 rfl w.heap.size 5 i0 Tryz.underlying22 Tryz.underlying9 hi hz0 hz1 hz2 _ (m + sep.size) _ rfl hown1 ss[k] rfl (by unfold maxLen; omega) (by omega) hb1.size ?_; intro v2 w2 hown2 hg2 _; have hb2 := own_below hown1 hg2 hb1.size hb1; clear hg2))
        go_roundw
        case rel =>
          refine ⟨k + 1, m + sep.size + ss[k].size, by omega, by go_num, ?_, ?_, hb2⟩
          · rw [Hj.out, List.length_append, List.length_append, size_toList, size_toList, ← Hm.out]
          · rw [Hj.out, Lib.byteCells_append, Lib.byteCells_append]
            exact hown2
        case measure => simp [intOf]; omega
      · have hk0 : k = 0 := by omega
        subst hk0
        have hc0 : wr.cell? ⟨b, o, none⟩ = some (.string ss[0]) := by simpa using hc1
        have hj := jn_first ss sep hlt
        have hlen : m + ss[0].size ≤ 70368744177664 := by
          have h1 : m = 0 := Hm.out
          have h2 : (jn (ss.take 1) sep).length ≤ _ := hnext
          rw [hj, size_toList] at h2
          omega
        have Hj := Lib.hid hj
        clear hj hnext
        go_wp2_with (at_builtin; refine Lib.wpList_append_own_string _ rfl (.tmp 19) (.tmp 23) 22 9 rfl w.heap.size 5 i0 Tryz.underlying22 Tryz.underlying9 hi hz0 hz1 hz2 _ m _ rfl Hown.out ss[0] rfl (by unfold maxLen; omega) (by omega) hb.size ?_; intro v2 w2 hown2 hg2 _; have hb2 := own_below Hown.out hg2 hb.size hb; clear hg2)
        go_roundw
        case rel =>
          refine ⟨1, m + ss[0].size, by omega, rfl, ?_, ?_, hb2⟩
          · rw [Hj.out, size_toList, Hm.out]
            simp [jn_nil]
          · rw [Hj.out]
            exact hown2
        case measure => simp [intOf]; omega
    · have hk' : k = ss.length := by omega
      have hconv := string_owned (P := Tryz.prog) 22 9 Tryz.underlying22 Tryz.underlying5 Tryz.underlying9 hown
      rw [hk', List.take_length] at hconv
      have Hk := Lib.hid hk'
      clear hk' hm
      go_wp2
      go_ret
      exact ⟨rfl, hb⟩
end Go.Proofs.YtpmmjaceehlpiaaGreatDoor
/-
  The model's SplitByte: the pieces of the string between the occurrences of the byte, in a new row.
-/
namespace Go.Proofs.YtpmmjaceehlpiaaGreatDoor
open Go Go.RowKit

theorem textInfo : (Tryz.prog.info? 9).map (fun i => (i.zero, i.size, i.bytes)) = some (some (.string ⟨#[]⟩), 1, 16) := by kernel_rfl

/-- A new row that holds these strings. -/
def RowEnd (ss : List ByteArray) (w : World) (e : Ending) (w' : World) : Prop :=
  ∃ a cap, e = .returned (.slice a ss.length cap) ∧ ss.length ≤ cap ∧ w'.ownsRow w.heap.size 9 1 (.slice a ss.length cap) ss.length (strVals ss) ∧ Below w.heap.size w w'
theorem row_end {w w' : World} {v : Value} {n : Nat} {ss : List ByteArray} (hn : n = ss.length) (h : w'.ownsRow w.heap.size 9 1 v n (strVals ss)) (hb : Below w.heap.size w w') : RowEnd ss w (.returned v) w' := by
  subst hn
  rcases h.2 with ⟨rfl, h0⟩ | ⟨g, cap, cur, rfl, hbg, hg, hnc, hcm, hcs, ht⟩
  · refine ⟨none, 0, ?_, by omega, ?_, hb⟩
    · rw [h0]
    · rw [h0] at h ⊢
      exact h
  · exact ⟨_, cap, rfl, hnc, h, hb⟩

theorem strVals_next (qs : List (List UInt8)) (s : ByteArray) (a b : Nat) : strVals (qs.map mkS) ++ [.string (s.extract a b)] = strVals ((qs ++ [(s.data.toList.drop a).take (b - a)]).map mkS) := by
  rw [List.map_append, strVals, strVals, List.map_append]
  congr 1
  rw [List.map_cons, List.map_cons, ← extract_list]
  rfl

theorem one_cell {w : World} {e : TypeId} (x : Value) : ∀ (j : Nat) (u : Value), [x][j]? = some u → (w.alloc (.cells #[x] e)).cell? ((⟨w.heap.size, 0, none⟩ : Addr).add j) = some u := by
  intro j u hu
  match j, hu with
  | 0, hu =>
    simp at hu
    subst hu
    simp [Addr.add]
  | j + 1, hu => simp at hu
theorem one_oneCell (x : ByteArray) : ∀ u ∈ [Value.string x], u.oneCell' = true := by
  intro u hu
  simp at hu
  subst hu
  rfl

set_option maxRecDepth 100000 in
set_option maxHeartbeats 800000 in
theorem specSplit (s : ByteArray) (c : UInt8) (w : World) (hs : s.size ≤ 1099511627776) :
    Calls Tryz.prog 142 #[.string s, .int .u8 (c.toNat : Int)] w (RowEnd (pieces c s) w) := by
  obtain ⟨i0, hi, hz0, hz1, hz2⟩ := info_parts textInfo
  have hlen : s.data.toList.length = s.size := by simp
  have Hlen := Lib.hid hlen
  clear hlen
  go_enter Tryz.func142, Tryz.ntmps142
  go_wp2
  go_loopw [5, 6, 7] (fun v f i wr => ∃ (a b m : Nat) (qs : List (List UInt8)), b ≤ s.size + 1 ∧ i = .int .i64 b ∧ f = .int .i64 a ∧ m = qs.length ∧ m ≤ a ∧ wr.ownsRow w.heap.size 9 1 v m (strVals (qs.map mkS)) ∧ Below w.heap.size w wr ∧ (a ≤ b) ∧
      (b ≤ s.size → qs ++ cut c (s.data.toList.drop a) = cut c s.data.toList ∧ ∀ x ∈ (s.data.toList.drop a).take (b - a), x ≠ c) ∧ (s.size < b → qs = cut c s.data.toList))
    (fun _ _ i _ => s.size + 1 - (intOf i).toNat)
  case atStart => exact ⟨0, 0, 0, [], by omega, rfl, rfl, rfl, Nat.le_refl _, World.ownsRow_made w #[] 0 (Nat.le_refl _) (Nat.zero_le _) rfl, (Below.refl _ _).alloc (Nat.le_refl _) _, Nat.le_refl _, fun _ => ⟨by simp, by simp⟩, fun h => by omega⟩
  case round =>
    obtain ⟨a, b, m, qs, hbs, rfl, rfl, hm, hma, hown, hbw, hab, hin, hout⟩ := hrel
    have Hm := Lib.hid hm
    have Hown := Lib.hid hown
    have Hin := Lib.hid hin
    have Hout := Lib.hid hout
    clear hm hown hin hout
    by_cases hend : s.size < b
    · have hq : qs = cut c s.data.toList := Hout.out hend
      have Hq := Lib.hid hq
      clear hq
      go_wp2
      go_ret
      have hown2 := Hown.out
      rw [Hq.out] at hown2
      exact row_end (by rw [pieces, List.length_map, ← Hq.out]; exact Hm.out) hown2 hbw
    · have hble : b ≤ s.size := by omega
      by_cases hlast : b = s.size
      · have hba : (s.data.toList.drop a).take (b - a) = s.data.toList.drop a := List.take_of_length_le (by rw [List.length_drop, Hlen.out]; omega)
        have hfin : qs ++ [(s.data.toList.drop a).take (b - a)] = cut c s.data.toList := by
          have h1 := (Hin.out hble).1
          have h2 := (Hin.out hble).2
          rw [hba] at h2 ⊢
          rw [← h1, cut_none c _ h2]
        have Hfin := Lib.hid hfin
        have heq : ((b : Int) == (s.size : Int)) = true := by simp; omega
        have Hlast := Lib.hid hlast
        clear hba hfin hlast
        go_wp2_with (at_builtin; refine wpList_append_own _ rfl (.tmp 26) (.tmp 31) 24 rfl w.heap.size 9 i0 (.string ⟨#[]⟩) 1 16 Tryz.underlying24 hi hz0 hz1 hz2 rfl (by decide) _ m _ rfl (Hown.out.alloc _) ⟨wr.heap.size, 0, none⟩ 1 1 [.string (s.extract a b)] rfl rfl (one_cell _) (one_oneCell _) (by unfold maxLen; omega) (by omega) (Nat.le_trans hbw.size (by simp)) ?_; intro v2 w2 hown2 hg2 _; have hb2 := own_below (Hown.out.alloc _) hg2 (Nat.le_trans hbw.size (by simp)) (hbw.alloc hbw.size _); clear hg2)
        go_roundw
        case rel =>
          refine ⟨b + 1, b + 1, m + 1, qs ++ [(s.data.toList.drop a).take (b - a)], by omega, by go_num, by go_num, by rw [List.length_append, List.length_singleton, Hm.out], by omega, ?_, hb2, Nat.le_refl _, fun h => ?_, fun _ => Hfin.out⟩
          · rw [← strVals_next]; exact hown2
          · have := Hlast.out
            omega
        case measure => simp [intOf]; omega
      · have hlt : b < s.size := by omega
        have heq : ((b : Int) == (s.size : Int)) = false := by simp; omega
        have hbl : b < s.data.toList.length := by rw [Hlen.out]; exact hlt
        by_cases hc : s[b] = c
        · have hbc : ((s[b].toNat : Int) == (c.toNat : Int)) = true := by rw [hc]; simp
          have hstep : cut c (s.data.toList.drop a) = (s.data.toList.drop a).take (b - a) :: cut c (s.data.toList.drop (b + 1)) := cut_step hab hbl hc (Hin.out hble).2
          have Hstep := Lib.hid hstep
          clear hstep hc
          go_wp2_with (at_builtin; refine wpList_append_own _ rfl (.tmp 26) (.tmp 31) 24 rfl w.heap.size 9 i0 (.string ⟨#[]⟩) 1 16 Tryz.underlying24 hi hz0 hz1 hz2 rfl (by decide) _ m _ rfl (Hown.out.alloc _) ⟨wr.heap.size, 0, none⟩ 1 1 [.string (s.extract a b)] rfl rfl (one_cell _) (one_oneCell _) (by unfold maxLen; omega) (by omega) (Nat.le_trans hbw.size (by simp)) ?_; intro v2 w2 hown2 hg2 _; have hb2 := own_below (Hown.out.alloc _) hg2 (Nat.le_trans hbw.size (by simp)) (hbw.alloc hbw.size _); clear hg2)
          go_roundw
          case rel =>
            refine ⟨b + 1, b + 1, m + 1, qs ++ [(s.data.toList.drop a).take (b - a)], by omega, by go_num, by go_num, by rw [List.length_append, List.length_singleton, Hm.out], by omega, ?_, hb2, Nat.le_refl _, fun h => ⟨?_, ?_⟩, fun h => ?_⟩
            · rw [← strVals_next]; exact hown2
            · rw [← (Hin.out hble).1, Hstep.out]
              simp
            · simp
            · omega
          case measure => simp [intOf]; omega
        · have hbc : ((s[b].toNat : Int) == (c.toNat : Int)) = false := by
            simp only [beq_eq_false_iff_ne, ne_eq]
            intro h
            exact hc (UInt8.toNat_inj.1 (by omega))
          have hseg := seg_next hab hbl hc (Hin.out hble).2
          have Hseg := Lib.hid hseg
          clear hseg hc
          go_wp2
          go_roundw
          case rel =>
            exact ⟨a, b + 1, m, qs, by omega, by go_num, rfl, Hm.out, by omega, Hown.out, hbw, by omega, fun h => ⟨(Hin.out hble).1, Hseg.out⟩, fun h => by omega⟩
          case measure => simp [intOf]; omega
end Go.Proofs.YtpmmjaceehlpiaaGreatDoor
/-
  The law's own copy of an edge, of a row of edges, of a program: new rows with the same contents.
-/
namespace Go.Proofs.YtpmmjaceehlpiaaGreatDoor
open Go Go.RowKit

set_option maxHeartbeats 400000 in
theorem lawToEdge (x : Ed) (w : World) : Calls Tryz.prog 117 #[edV x.f x.t x.k x.a x.b] w (GaveB (edV x.f x.t x.k x.a x.b) w) := by
  obtain ⟨f, t, k, a, b⟩ := x
  go_enter Tryz.func117, Tryz.ntmps117
  go_wp2_with fail
  refine (lawToStmt k a b _).mono ?_
  rintro e w1 ⟨rfl, hb1⟩
  obtain ⟨hc, hf⟩ := bcell hb1
  have hz := hb1.size
  simp at hz
  go_wp2
  refine bodyPost_ret (v := edV f t k a b) (by simp [results, Tryz.results117, go_sem, hc]) rfl ⟨rfl, ?_⟩
  have hB : Below w.heap.size w w1 := by
    refine Below.trans ?_ (hb1.mono (by simp <;> omega))
    repeat (first | with_reducible exact Below.refl _ _ | with_reducible refine Below.alloc ?_ (by simp <;> omega) _ | with_reducible refine Below.setCell ?_ (by simp <;> omega) _)
  repeat (first | with_reducible exact hB | with_reducible refine Below.setCell ?_ (by simp <;> omega) _)

theorem edgeInfo : (Tryz.prog.info? 85).map (fun i => (i.zero, i.size, i.bytes)) = some (some (.agg #[.int .i64 0, .int .i64 0, .int .i64 0, .string ⟨#[]⟩, .string ⟨#[]⟩]), 5, 56) := by kernel_rfl

/-- A new slice at the heap's end that holds the edges; nothing old has turned. -/
def CopyEdges (es : List Ed) (w : World) (e : Ending) (w' : World) : Prop :=
  e = .returned (.slice (some ⟨w.heap.size, 0, none⟩) es.length es.length) ∧ w'.ownsRow w.heap.size 85 5 (.slice (some ⟨w.heap.size, 0, none⟩) es.length es.length) es.length (edVals es) ∧ Below w.heap.size w w'

/-- Five cells in a row turned at once. -/
def set5 (xs : List Value) (o : Nat) (x : Ed) : List Value := ((((xs.set o (.int .i64 x.f)).set (o + 1) (.int .i64 x.t)).set (o + 2) (.int .i64 x.k)).set (o + 3) (.string x.a)).set (o + 4) (.string x.b)
theorem set5_length (xs : List Value) (o : Nat) (x : Ed) : (set5 xs o x).length = xs.length := by simp [set5]
theorem set5_take (xs : List Value) (o : Nat) (x : Ed) (h : o + 5 ≤ xs.length) : (set5 xs o x).take (o + 5) = xs.take o ++ edCells x := by
  apply List.ext_getElem?
  intro j
  rcases Nat.lt_or_ge j o with hj | hj
  · rw [List.getElem?_append_left (by simp; omega), List.getElem?_take_of_lt (by omega), List.getElem?_take_of_lt hj]
    simp only [set5, List.getElem?_set]
    rw [if_neg (by omega), if_neg (by omega), if_neg (by omega), if_neg (by omega), if_neg (by omega)]
  · rw [List.getElem?_append_right (by simp; omega), List.length_take, Nat.min_eq_left (by omega)]
    rcases Nat.lt_or_ge j (o + 5) with hj5 | hj5
    · obtain ⟨i, rfl, hi⟩ : ∃ i, j = o + i ∧ i < 5 := ⟨j - o, by omega, by omega⟩
      rw [List.getElem?_take_of_lt hj5, Nat.add_sub_cancel_left]
      simp only [set5, List.getElem?_set, List.length_set]
      match i, hi with
      | 0, _ => simp [edCells]; omega
      | 1, _ => simp [edCells]; omega
      | 2, _ => simp [edCells]; omega
      | 3, _ => simp [edCells]; omega
      | 4, _ => simp [edCells]; omega
    · rw [List.getElem?_eq_none (by rw [List.length_take]; omega), List.getElem?_eq_none (by rw [edCells_length]; omega)]

set_option maxHeartbeats 800000 in
theorem toEdges (a : Option Addr) (cap : Nat) (es : List Ed) (w : World) (hn : es.length ≤ 1099511627776) (hrow : Row w w.heap.size a (edVals es)) :
    Calls Tryz.prog 77 #[.slice a es.length cap] w (CopyEdges es w) := by
  obtain ⟨i0, hi, hz0, hz1, hz2⟩ := info_parts edgeInfo
  go_enter Tryz.func77, Tryz.ntmps77
  go_wp2_with (at_make; refine wpList_make_full _ rfl _ _ 25 rfl w.heap.size 85 i0 _ 5 Tryz.underlying25 hi hz0 hz1 _ _ _ _ es.length rfl rfl rfl rfl ?b2 ?b3 (Nat.le_refl _) ?_)
  case b2 => rw [hz2]; omega
  case b3 => unfold maxLen; omega
  intro w0 hown0 hgrow0
  go_wp2
  go_loopw [4] (fun i wr => ∃ (k : Nat) (ys : List Value), k ≤ es.length ∧ i = .int .i64 k ∧ ys.take (k * 5) = edVals (es.take k) ∧ ys.length = es.length * 5 ∧
      wr.ownsRow w.heap.size 85 5 (.slice (some ⟨w.heap.size, 0, none⟩) es.length es.length) es.length ys ∧ Below w.heap.size w wr)
    (fun i _ => es.length - (intOf i).toNat)
  case atStart => exact ⟨0, _, Nat.zero_le _, rfl, by simp [edVals], by simpa using hown0.1, hown0, (Below.refl _ _).grown hgrow0 (Nat.le_refl _) (fun k h => by cases h)⟩
  case round =>
    obtain ⟨k, ys, hk, rfl, hys, hyl, hown, hb⟩ := hrel
    by_cases hlt : k < es.length
    · obtain ⟨b, o, rfl, hbW, hE0⟩ := hrow.edge k hlt
      obtain ⟨c0, c1, c2, c3, c4⟩ := hE0.below hb hbW
      have htk := take_next es k hlt
      generalize es[k] = x at *
      have Hys := Lib.hid hys
      have Hyl := Lib.hid hyl
      have Htk := Lib.hid htk
      have Hown := Lib.hid hown
      have hgs : w.heap.size < wr.heap.size := (hown.lt _ rfl).2
      clear hys hyl hown htk hE0
      go_wp2_with fail
      refine (lawToEdge x _).mono ?_
      rintro e w1 ⟨rfl, hb1⟩
      have ho1 := own_keeps Hown.out hb1
      have hB1 : Below w.heap.size w w1 := hb.trans (hb1.mono hb.size)
      have hl1 : ys.length = es.length * 5 := Hyl.out
      obtain ⟨old0, hold0⟩ : ∃ old, w1.cell? ⟨w.heap.size, k * 5, none⟩ = some old := ⟨_, (ho1.cellAt (k * 5) (by omega)).trans (List.getElem?_eq_getElem (by omega))⟩
      obtain ⟨old1, hold1⟩ : ∃ old, w1.cell? ⟨w.heap.size, k * 5 + 1, none⟩ = some old := ⟨_, (ho1.cellAt (k * 5 + 1) (by omega)).trans (List.getElem?_eq_getElem (by omega))⟩
      obtain ⟨old2, hold2⟩ : ∃ old, w1.cell? ⟨w.heap.size, k * 5 + 2, none⟩ = some old := ⟨_, (ho1.cellAt (k * 5 + 2) (by omega)).trans (List.getElem?_eq_getElem (by omega))⟩
      obtain ⟨old3, hold3⟩ : ∃ old, w1.cell? ⟨w.heap.size, k * 5 + 3, none⟩ = some old := ⟨_, (ho1.cellAt (k * 5 + 3) (by omega)).trans (List.getElem?_eq_getElem (by omega))⟩
      obtain ⟨old4, hold4⟩ : ∃ old, w1.cell? ⟨w.heap.size, k * 5 + 4, none⟩ = some old := ⟨_, (ho1.cellAt (k * 5 + 4) (by omega)).trans (List.getElem?_eq_getElem (by omega))⟩
      have hf0 := ho1.frozenAt (k * 5)
      have hf1 := ho1.frozenAt (k * 5 + 1)
      have hf2 := ho1.frozenAt (k * 5 + 2)
      have hf3 := ho1.frozenAt (k * 5 + 3)
      have hf4 := ho1.frozenAt (k * 5 + 4)
      have Ho := Lib.hid ho1
      clear ho1 hl1
      go_wp2
      go_roundw
      case rel =>
        have h0 := (Ho.out.stored (k * 5) (.int .i64 x.f)).1
        have h1 := (h0.stored (k * 5 + 1) (.int .i64 x.t)).1
        have h2 := (h1.stored (k * 5 + 2) (.int .i64 x.k)).1
        have h3 := (h2.stored (k * 5 + 3) (.string x.a)).1
        have h4 := (h3.stored (k * 5 + 4) (.string x.b)).1
        have hg : w.heap.size ≤ w.heap.size := Nat.le_refl _
        refine ⟨k + 1, set5 ys (k * 5) x, by omega, by go_num, ?_, ?_, h4, ((((hB1.setCell hg _).setCell hg _).setCell hg _).setCell hg _).setCell hg _⟩
        · rw [Nat.add_mul, Nat.one_mul, set5_take _ _ _ (by rw [Hyl.out]; omega), Hys.out, Htk.out, edVals_snoc]
        · rw [set5_length]
          exact Hyl.out
      case measure => simp [intOf]; omega
    · have hk' : k = es.length := by omega
      have Hk := Lib.hid hk'
      have Hys := Lib.hid hys
      have Hyl := Lib.hid hyl
      clear hk' hys hyl
      go_wp2
      go_ret
      have hfull : ys = edVals es := by
        have h1 := Hys.out
        rw [Hk.out, List.take_length, List.take_of_length_le (by rw [Hyl.out]; exact Nat.le_refl _)] at h1
        exact h1
      rw [hfull] at hown
      exact ⟨rfl, hown, hb⟩

/-- A copy of a program: two new rows; nothing old has turned. -/
def CopyProg (ss : List ByteArray) (p : Int) (es : List Ed) (w : World) (e : Ending) (w' : World) : Prop :=
  ∃ g1 g2, e = .returned (.agg #[.slice (some ⟨g1, 0, none⟩) ss.length ss.length, .int .i64 p, .slice (some ⟨g2, 0, none⟩) es.length es.length]) ∧ w.heap.size ≤ g1 ∧ g1 < g2 ∧
    w'.ownsRow g1 9 1 (.slice (some ⟨g1, 0, none⟩) ss.length ss.length) ss.length (strVals ss) ∧ w'.ownsRow g2 85 5 (.slice (some ⟨g2, 0, none⟩) es.length es.length) es.length (edVals es) ∧ Below w.heap.size w w'

set_option maxHeartbeats 800000 in
theorem toProgram (a : Option Addr) (cap : Nat) (ss : List ByteArray) (p : Int) (b : Option Addr) (capb : Nat) (es : List Ed) (w : World) (hn : ss.length ≤ 1099511627776) (hm : es.length ≤ 1099511627776) (ha : Row w w.heap.size a (strVals ss)) (hb : Row w w.heap.size b (edVals es)) :
    Calls Tryz.prog 24 #[.agg #[.slice a ss.length cap, .int .i64 p, .slice b es.length capb]] w (CopyProg ss p es w) := by
  have key : ∀ W, Below w.heap.size w W → Row W W.heap.size a (strVals ss) ∧ Row W W.heap.size b (edVals es) := fun W h => ⟨(ha.below h).grow h.size, (hb.below h).grow h.size⟩
  go_enter Tryz.func24, Tryz.ntmps24
  go_wp2_with fail
  refine (toStrs a cap ss _ hn (key _ ?_).1).mono ?_
  · repeat (first | exact Below.refl _ _ | refine Below.alloc ?_ (by simp <;> omega) _ | refine Below.setCell ?_ (by simp <;> omega) _)
  rintro e w1 ⟨rfl, ho1, hb1⟩
  obtain ⟨hc, hf⟩ := bcell hb1
  have hz := hb1.size
  simp at hz
  have hB1 : Below w.heap.size w w1 := by
    refine Below.trans ?_ (hb1.mono (by simp <;> omega))
    repeat (first | with_reducible exact Below.refl _ _ | with_reducible refine Below.alloc ?_ (by simp <;> omega) _ | with_reducible refine Below.setCell ?_ (by simp <;> omega) _)
  have Ho1 := Lib.hid ho1
  clear ho1
  go_wp2_with fail
  refine (toEdges b capb es _ hm (key _ ?_).2).mono ?_
  · repeat (first | with_reducible exact hB1 | with_reducible refine Below.alloc ?_ (by simp <;> omega) _ | with_reducible refine Below.setCell ?_ (by simp <;> omega) _)
  rintro e w2 ⟨rfl, ho2, hb2⟩
  obtain ⟨hc2, hf2⟩ := bcell hb2
  have hz2 := hb2.size
  simp at hz2
  have d0 : w2.cell? ⟨w.heap.size + 1 + 1, 0, none⟩ = some (.slice (some ⟨w.heap.size + 1 + 1 + 1, 0, none⟩) ss.length ss.length) := by
    rw [hc2 _ _ (by simp; omega)]
    simp [hc, go_sem]
  have d1 : w2.cell? ⟨w.heap.size + 1 + 1, 1, none⟩ = some (.int .i64 p) := by
    rw [hc2 _ _ (by simp; omega)]
    simp [hc, go_sem]
  have d2 : w2.cell? ⟨w.heap.size + 1 + 1, 2, none⟩ = some (.slice none 0 0) := by
    rw [hc2 _ _ (by simp; omega)]
    simp [hc, go_sem]
  have d3 : w2.frozen? ⟨w.heap.size + 1 + 1, 2, none⟩ = false := by
    rw [hf2 _ _ (by simp; omega)]
    simp [hf, go_sem]
  have r0 : w2.cell? ⟨w.heap.size + 1, 0, none⟩ = some (.slice none 0 0) := by
    rw [hc2 _ _ (by simp; omega)]
    simp [hc, go_sem]
  have r1 : w2.cell? ⟨w.heap.size + 1, 1, none⟩ = some (.int .i64 0) := by
    rw [hc2 _ _ (by simp; omega)]
    simp [hc, go_sem]
  have r2 : w2.cell? ⟨w.heap.size + 1, 2, none⟩ = some (.slice none 0 0) := by
    rw [hc2 _ _ (by simp; omega)]
    simp [hc, go_sem]
  have r3 : ∀ o, w2.frozen? ⟨w.heap.size + 1, o, none⟩ = false := by
    intro o
    rw [hf2 _ _ (by simp; omega)]
    simp [hf, go_sem]
  have hB2 : Below w.heap.size w w2 := by
    refine Below.trans ?_ (hb2.mono (by simp <;> omega))
    repeat (first | with_reducible exact hB1 | with_reducible refine Below.setCell ?_ (by simp <;> omega) _)
  have hk2 : w2.ownsRow (w.heap.size + 1 + 1 + 1) 9 1 (.slice (some ⟨w.heap.size + 1 + 1 + 1, 0, none⟩) ss.length ss.length) ss.length (strVals ss) := by
    have h0 : w1.ownsRow (w.heap.size + 1 + 1 + 1) 9 1 (.slice (some ⟨w.heap.size + 1 + 1 + 1, 0, none⟩) ss.length ss.length) ss.length (strVals ss) := by simpa using Ho1.out
    have h1 := ownsRow_setCell_below (ownsRow_setCell_below h0 (a := ⟨w.heap.size + 1 + 1, 0, none⟩) (Nat.lt_succ_self _) (.slice (some ⟨w.heap.size + 1 + 1 + 1, 0, none⟩) ss.length ss.length)) (a := ⟨w.heap.size + 1 + 1, 1, none⟩) (Nat.lt_succ_self _) (.int .i64 p)
    exact own_keeps h1 hb2
  have hE2 := ho2
  simp only [World.size_setCell] at hE2
  have hle : w.heap.size ≤ w.heap.size + 1 + 1 + 1 := by omega
  have hlt : w.heap.size + 1 + 1 + 1 < w1.heap.size := by
    have := Ho1.out.lt _ rfl
    simpa using this.2
  have HE2 := Lib.hid hE2
  have HK2 := Lib.hid hk2
  clear hE2 hk2 ho2 Ho1 hc hc2 hf hf2 hz hz2
  go_wp2
  refine bodyPost_ret (v := .agg #[.slice (some ⟨w.heap.size + 1 + 1 + 1, 0, none⟩) ss.length ss.length, .int .i64 p, .slice (some ⟨w1.heap.size, 0, none⟩) es.length es.length]) (by simp [results, Tryz.results24, go_sem, d0, d1, r0, r1, r2]) rfl ⟨w.heap.size + 1 + 1 + 1, w1.heap.size, rfl, hle, hlt, ?_, ?_, ?_⟩
  · repeat (first | with_reducible exact HK2.out | with_reducible refine ownsRow_setCell_below ?_ (by simp <;> omega) _)
  · repeat (first | with_reducible exact HE2.out | with_reducible refine ownsRow_setCell_below ?_ (by simp <;> omega) _)
  · repeat (first | with_reducible exact hB2 | with_reducible refine Below.setCell ?_ (by simp <;> omega) _)
end Go.Proofs.YtpmmjaceehlpiaaGreatDoor
/-
  The model's reader of numerals: at every string it returns the number whose numeral the string is, if it has at most so many digits; else 0 and false.
-/
namespace Go.Proofs.YtpmmjaceehlpiaaGreatDoor
open Go Go.RowKit

def ReadEnd (most : Nat) (l : List UInt8) (w : World) (e : Ending) (w' : World) : Prop :=
  e = .returned (.tuple #[.int .i64 (if goodFor most l = true then valOf l else 0), .bool (goodFor most l)]) ∧ Below w.heap.size w w'

theorem read_bad {most : Nat} {l : List UInt8} {w w' : World} (h : goodFor most l = false) (hb : Below w.heap.size w w') : ReadEnd most l w (.returned (.tuple #[.int .i64 0, .bool false])) w' := by
  refine ⟨?_, hb⟩
  rw [h]
  rfl
theorem read_good {most : Nat} {l : List UInt8} {v : Int} {w w' : World} (h : goodFor most l = true) (hv : valOf l = v) (hb : Below w.heap.size w w') : ReadEnd most l w (.returned (.tuple #[.int .i64 v, .bool true])) w' := by
  refine ⟨?_, hb⟩
  rw [h, hv]
  rfl
theorem bytes_take (s : ByteArray) (k : Nat) (h : k < s.size) : s.data.toList.take (k + 1) = s.data.toList.take k ++ [s[k]] := by
  rw [List.take_succ_eq_append_getElem (by simpa using h)]
  rfl
theorem dval_bound (l : List UInt8) (k : Nat) (h : (l.take k).all isDig = true) (hk : k ≤ 12) : dval (l.take k) ≤ 999999999999 := by
  have h1 := dval_lt _ h
  have h2 : 10 ^ (l.take k).length ≤ 10 ^ 12 := Nat.pow_le_pow_right (by omega) (by rw [List.length_take]; omega)
  omega

theorem plain_bad {most : Nat} {s : ByteArray} (hbody : bodyOf s.data.toList = s.data.toList) {k : Nat} (hk : k < s.size) (h : isDig s[k] = false) : goodFor most s.data.toList = false := by
  simp only [goodFor, hbody, decide_eq_false_iff_not]
  intro hh
  have hm : s[k] ∈ s.data.toList := by
    have : s[k] = s.data.toList[k]'(by simpa using hk) := rfl
    rw [this]
    exact List.getElem_mem _
  have := List.all_eq_true.1 hh.2.2.1 _ hm
  rw [h] at this
  cases this

set_option maxRecDepth 100000 in
set_option maxHeartbeats 800000 in
/-- No sign ahead. -/
theorem specRead_plain (s : ByteArray) (most : Nat) (w : World) (hm : most ≤ 12) (hs : s.size ≤ maxLen) (h0 : 0 < s.size) (hc : ¬ s[0].toNat = 45) :
    Calls Tryz.prog 159 #[.string s, .int .i64 most] w (ReadEnd most s.data.toList w) := by
  unfold maxLen at hs
  have hb : ((s[0].toNat : Int) == 45) = false := by simp; omega
  have hhead : s.data.toList.head? ≠ some 45 := by
    have e : s.data.toList.head? = some s[0] := by
      rw [List.head?_eq_getElem?, List.getElem?_eq_getElem (by simpa using h0)]
      rfl
    rw [e]
    intro h
    have := Option.some.inj h
    rw [this] at hc
    exact hc rfl
  have hbody : bodyOf s.data.toList = s.data.toList := by rw [bodyOf, if_neg hhead]
  have hval : valOf s.data.toList = (dval s.data.toList : Int) := by rw [valOf, if_neg hhead, hbody]
  have hlen : s.data.toList.length = s.size := by simp
  by_cases hmost : most < s.size
  · have hbad : goodFor most s.data.toList = false := by
      simp only [goodFor, hbody, hlen, decide_eq_false_iff_not]
      omega
    have Hbad := Lib.hid hbad
    clear hbad hbody hval hlen
    go_enter Tryz.func159, Tryz.ntmps159
    go_wp2
    go_ret2
    exact read_bad Hbad.out (Below.refl _ _)
  · have Hbody := Lib.hid hbody
    have Hval := Lib.hid hval
    have Hlen := Lib.hid hlen
    clear hbody hval hlen
    go_enter Tryz.func159, Tryz.ntmps159
    go_wp2
    go_loop [8, 9] (fun n i => ∃ (k m : Nat), k ≤ s.size ∧ i = .int .i64 k ∧ n = .int .i64 m ∧ m = dval (s.data.toList.take k) ∧ (s.data.toList.take k).all isDig = true) (fun _ i => s.size - (intOf i).toNat)
    case atStart => exact ⟨0, 0, Nat.zero_le _, rfl, rfl, rfl, rfl⟩
    case round =>
      obtain ⟨k, m, hk, rfl, rfl, hmv, hall⟩ := hrel
      have hbd := dval_bound _ k hall (by omega)
      rw [← hmv] at hbd
      by_cases hlt : k < s.size
      · have htk := bytes_take s k hlt
        have htkH := Lib.hid htk
        have Hmv := Lib.hid hmv
        have Hall := Lib.hid hall
        clear htk hmv hall
        by_cases hlo : (s[k].toNat : Int) < 48
        · have hbad : goodFor most s.data.toList = false := plain_bad Hbody.out hlt (by simp [isDig]; omega)
          have Hbad := Lib.hid hbad
          clear hbad
          go_wp2
          go_ret2
          exact read_bad Hbad.out (Below.refl _ _)
        · by_cases hhi : 57 < (s[k].toNat : Int)
          · have hbad : goodFor most s.data.toList = false := plain_bad Hbody.out hlt (by simp [isDig]; omega)
            have Hbad := Lib.hid hbad
            clear hbad
            go_wp2
            go_ret2
            exact read_bad Hbad.out (Below.refl _ _)
          · go_wp2
            go_round
            case rel => exact ⟨k + 1, 10 * m + (s[k].toNat - 48), by omega, by go_num, by congr 1; omega, by rw [htkH.out, dval_snoc, ← Hmv.out], by rw [htkH.out, List.all_append, Hall.out]; simp [isDig]; omega⟩
            case measure => simp [intOf]; omega
      · have hk' : k = s.size := by omega
        have hfull : s.data.toList.take k = s.data.toList := List.take_of_length_le (by rw [Hlen.out]; omega)
        rw [hfull] at hmv hall
        by_cases heq : Lib.itoa (m : Int) = s.data.toList
        · have hgood : goodFor most s.data.toList = true := by
            simp only [goodFor, Hbody.out, Hval.out, Hlen.out, decide_eq_true_eq, ← hmv]
            exact ⟨by omega, by omega, hall, heq⟩
          have hv : valOf s.data.toList = (m : Int) := by rw [Hval.out, hmv]
          have hne : (Lib.itoa (m : Int) == s.toList) = true := lists_eq heq
          have Hgood := Lib.hid hgood
          have Hv := Lib.hid hv
          have Hk := Lib.hid hk'
          clear hgood hv hfull hmv hall heq hk'
          go_wp2_with fail
          refine (specFormat m (by omega) (by omega) _).mono ?_
          rintro e w1 ⟨rfl, hb1⟩
          go_wp2
          go_ret2
          exact read_good Hgood.out Hv.out hb1
        · have hgood : goodFor most s.data.toList = false := by
            simp only [goodFor, Hbody.out, Hval.out, decide_eq_false_iff_not, ← hmv]
            exact fun h => heq h.2.2.2
          have hne : (Lib.itoa (m : Int) == s.toList) = false := lists_ne heq
          have Hgood := Lib.hid hgood
          have Hk := Lib.hid hk'
          clear hgood hfull hmv hall heq hk'
          go_wp2_with fail
          refine (specFormat m (by omega) (by omega) _).mono ?_
          rintro e w1 ⟨rfl, hb1⟩
          go_wp2
          go_ret2
          exact read_bad Hgood.out hb1
theorem cut_list (s : ByteArray) : (s.extract 1 s.size).data.toList = s.data.toList.tail := by
  simp
  exact List.take_of_length_le (by simp)
theorem tail_size (s : ByteArray) : (s.extract 1 s.size).size = s.size - 1 := by
  simp

theorem sign_bad {most : Nat} {s : ByteArray} (hbody : bodyOf s.data.toList = s.data.toList.tail) {k : Nat} (hk : k < (s.extract 1 s.size).size) (h : isDig (s.extract 1 s.size)[k] = false) : goodFor most s.data.toList = false := by
  simp only [goodFor, hbody, decide_eq_false_iff_not]
  intro hh
  have hm : (s.extract 1 s.size)[k] ∈ s.data.toList.tail := by
    have : (s.extract 1 s.size)[k] = (s.extract 1 s.size).data.toList[k]'(by simpa using hk) := rfl
    have hmem : (s.extract 1 s.size)[k] ∈ (s.extract 1 s.size).data.toList := by
      rw [this]
      exact List.getElem_mem _
    exact (cut_list s) ▸ hmem
  have := List.all_eq_true.1 hh.2.2.1 _ hm
  rw [h] at this
  cases this

theorem sign_head {s : ByteArray} (h0 : 0 < s.size) (hc : s[0].toNat = 45) : s.data.toList.head? = some 45 := by
  have e : s.data.toList.head? = some s[0] := by
    rw [List.head?_eq_getElem?, List.getElem?_eq_getElem (by simpa using h0)]
    rfl
  have e2 : s[0] = 45 := by
    apply UInt8.toNat_inj.1
    rw [hc]
    rfl
  rw [e, e2]

set_option maxRecDepth 100000 in
set_option maxHeartbeats 800000 in
/-- A sign ahead. -/
theorem specRead_sign (s : ByteArray) (most : Nat) (w : World) (hm : most ≤ 12) (hs : s.size ≤ maxLen) (h0 : 0 < s.size) (hc : s[0].toNat = 45) (hmost : s.size - 1 ≤ most) (h1 : 1 < s.size) :
    Calls Tryz.prog 159 #[.string s, .int .i64 most] w (ReadEnd most s.data.toList w) := by
  unfold maxLen at hs
  have hb : ((s[0].toNat : Int) == 45) = true := by simp; omega
  have hhead := sign_head h0 hc
  have hbody : bodyOf s.data.toList = s.data.toList.tail := by rw [bodyOf, if_pos hhead]
  have hval : valOf s.data.toList = -(dval s.data.toList.tail : Int) := by rw [valOf, if_pos hhead, hbody]
  have hlen : s.data.toList.tail.length = s.size - 1 := by simp
  have Hbody := Lib.hid hbody
  have Hval := Lib.hid hval
  have Hlen := Lib.hid hlen
  clear hbody hval hlen hc hhead
  go_enter Tryz.func159, Tryz.ntmps159
  go_wp2
  go_loop [8, 9] (fun n i => ∃ (k m : Nat), k ≤ s.size - 1 ∧ i = .int .i64 k ∧ n = .int .i64 m ∧ m = dval (s.data.toList.tail.take k) ∧ (s.data.toList.tail.take k).all isDig = true) (fun _ i => s.size - (intOf i).toNat)
  case atStart => exact ⟨0, 0, Nat.zero_le _, rfl, rfl, rfl, rfl⟩
  case round =>
    obtain ⟨k, m, hk, rfl, rfl, hmv, hall⟩ := hrel
    have hbd := dval_bound _ k hall (by omega)
    rw [← hmv] at hbd
    by_cases hlt : k < s.size - 1
    · have hkt : k < (s.extract 1 s.size).size := by rw [tail_size]; exact hlt
      have htk := bytes_take (s.extract 1 s.size) k hkt
      rw [cut_list] at htk
      have htkH := Lib.hid htk
      have Hmv := Lib.hid hmv
      have Hall := Lib.hid hall
      clear htk hmv hall
      by_cases hlo : ((s.extract 1 s.size)[k].toNat : Int) < 48
      · have hbad : goodFor most s.data.toList = false := sign_bad Hbody.out hkt (by simp only [isDig, decide_eq_false_iff_not]; omega)
        have Hbad := Lib.hid hbad
        clear hbad
        go_wp2
        go_ret2
        exact read_bad Hbad.out (Below.refl _ _)
      · by_cases hhi : 57 < ((s.extract 1 s.size)[k].toNat : Int)
        · have hbad : goodFor most s.data.toList = false := sign_bad Hbody.out hkt (by simp only [isDig, decide_eq_false_iff_not]; omega)
          have Hbad := Lib.hid hbad
          clear hbad
          go_wp2
          go_ret2
          exact read_bad Hbad.out (Below.refl _ _)
        · go_wp2
          go_round
          case rel => exact ⟨k + 1, 10 * m + ((s.extract 1 s.size)[k].toNat - 48), by omega, by go_num, by congr 1; omega, by rw [htkH.out, dval_snoc, ← Hmv.out], by rw [htkH.out, List.all_append, Hall.out]; simp only [isDig, List.all_cons, List.all_nil, Bool.and_true, Bool.true_and, decide_eq_true_eq]; omega⟩
          case measure => simp [intOf]; omega
    · have hk' : k = s.size - 1 := by omega
      have hfull : s.data.toList.tail.take k = s.data.toList.tail := List.take_of_length_le (by rw [Hlen.out]; omega)
      rw [hfull] at hmv hall
      by_cases heq : Lib.itoa (-(m : Int)) = s.data.toList
      · have hgood : goodFor most s.data.toList = true := by
          simp only [goodFor, Hbody.out, Hval.out, Hlen.out, decide_eq_true_eq, ← hmv]
          exact ⟨by omega, by omega, hall, heq⟩
        have hv : valOf s.data.toList = -(m : Int) := by rw [Hval.out, hmv]
        have hne : (Lib.itoa (-(m : Int)) == s.toList) = true := lists_eq heq
        have Hgood := Lib.hid hgood
        have Hv := Lib.hid hv
        have Hk := Lib.hid hk'
        clear hgood hv hfull hmv hall heq hk'
        go_wp2_with fail
        refine (specFormat _ (by omega) (by omega) _).mono ?_
        rintro e w1 ⟨rfl, hb1⟩
        go_wp2
        go_ret2
        exact read_good Hgood.out Hv.out hb1
      · have hgood : goodFor most s.data.toList = false := by
          simp only [goodFor, Hbody.out, Hval.out, decide_eq_false_iff_not, ← hmv]
          exact fun h => heq h.2.2.2
        have hne : (Lib.itoa (-(m : Int)) == s.toList) = false := lists_ne heq
        have Hgood := Lib.hid hgood
        have Hk := Lib.hid hk'
        clear hgood hfull hmv hall heq hk'
        go_wp2_with fail
        refine (specFormat _ (by omega) (by omega) _).mono ?_
        rintro e w1 ⟨rfl, hb1⟩
        go_wp2
        go_ret2
        exact read_bad Hgood.out hb1

/-- Too short, or too long. -/
theorem specRead_none (s : ByteArray) (most : Nat) (w : World) (h0 : s.size = 0) : Calls Tryz.prog 159 #[.string s, .int .i64 most] w (ReadEnd most s.data.toList w) := by
  have he : s = ByteArray.empty := by
    apply ByteArray.ext
    exact Array.eq_empty_of_size_eq_zero h0
  subst he
  clear h0
  have hbad : goodFor most ByteArray.empty.data.toList = false := by
    simp [goodFor, bodyOf]
  have Hbad := Lib.hid hbad
  clear hbad
  go_enter Tryz.func159, Tryz.ntmps159
  go_wp2
  go_ret2
  exact read_bad Hbad.out (Below.refl _ _)

set_option maxRecDepth 100000 in
theorem specRead_cut (s : ByteArray) (most : Nat) (w : World) (hm : most ≤ 12) (hs : s.size ≤ maxLen) (h0 : 0 < s.size) (hc : s[0].toNat = 45) (hbadlen : most < s.size - 1 ∨ s.size = 1) :
    Calls Tryz.prog 159 #[.string s, .int .i64 most] w (ReadEnd most s.data.toList w) := by
  unfold maxLen at hs
  have hb : ((s[0].toNat : Int) == 45) = true := by simp; omega
  have hhead := sign_head h0 hc
  have hbody : bodyOf s.data.toList = s.data.toList.tail := by rw [bodyOf, if_pos hhead]
  have hlen : s.data.toList.tail.length = s.size - 1 := by simp
  have hbad : goodFor most s.data.toList = false := by
    simp only [goodFor, hbody, hlen, decide_eq_false_iff_not]
    omega
  have Hbad := Lib.hid hbad
  clear hbad hbody hlen hhead hc
  by_cases h1 : 1 < s.size
  · have hl : most < s.size - 1 := by omega
    clear hbadlen
    go_enter Tryz.func159, Tryz.ntmps159
    go_wp2
    go_ret2
    exact read_bad Hbad.out (Below.refl _ _)
  · have hl : s.size - 1 < 1 := by omega
    clear hbadlen
    go_enter Tryz.func159, Tryz.ntmps159
    go_wp2
    go_ret2
    exact read_bad Hbad.out (Below.refl _ _)

theorem specRead (s : ByteArray) (most : Nat) (w : World) (hm : most ≤ 12) (hs : s.size ≤ maxLen) : Calls Tryz.prog 159 #[.string s, .int .i64 most] w (ReadEnd most s.data.toList w) := by
  by_cases h0 : 0 < s.size
  · by_cases hc : s[0].toNat = 45
    · by_cases hl : 1 < s.size ∧ s.size - 1 ≤ most
      · exact specRead_sign s most w hm hs h0 hc hl.2 hl.1
      · exact specRead_cut s most w hm hs h0 hc (by omega)
    · exact specRead_plain s most w hm hs h0 hc
  · exact specRead_none s most w (by omega)
end Go.Proofs.YtpmmjaceehlpiaaGreatDoor
/-
  The text of a statement, what a text is guessed to be, and the words of a text: plain mathematics on lists of bytes.
-/
namespace Go.Proofs.YtpmmjaceehlpiaaGreatDoor
open Go Go.RowKit

/-- A name as a list: one small letter or two. -/
def small (c : UInt8) : Bool := decide (97 ≤ c.toNat) && decide (c.toNat ≤ 122)
def nameL (l : List UInt8) : Bool := match l with
  | [c] => small c
  | [c, d] => small c && small d
  | _ => false
theorem mkS_data (s : ByteArray) : (⟨s.data.toList.toArray⟩ : ByteArray) = s := rfl
theorem bytes_ext {a b : ByteArray} (h : a.data.toList = b.data.toList) : a = b := by
  obtain ⟨⟨l⟩⟩ := a
  obtain ⟨⟨m⟩⟩ := b
  simp at h
  rw [h]
theorem goodName_list (s : ByteArray) : goodName s = nameL s.data.toList := by
  obtain ⟨⟨l⟩⟩ := s
  rw [Bool.eq_iff_iff]
  have hsz : (ByteArray.mk ⟨l⟩).size = l.length := rfl
  have hget : ∀ k (h : k < l.length), (ByteArray.mk ⟨l⟩)[k]'h = l[k]'h := fun k h => rfl
  simp only [goodName, decide_eq_true_eq]
  constructor
  · rintro ⟨h, h1, h2⟩
    rw [hsz] at h1 h2
    match l, h, h1, h2 with
    | [c], h, _, _ =>
      have := h 0 (by rw [hsz]; simp)
      simp only [hget, List.getElem_cons_zero] at this
      simp [nameL, small, this]
    | [c, d], h, _, _ =>
      have a := h 0 (by rw [hsz]; simp)
      have b := h 1 (by rw [hsz]; simp)
      simp only [hget, List.getElem_cons_zero, List.getElem_cons_succ] at a b
      simp [nameL, small, a, b]
    | _ :: _ :: _ :: _, _, _, h2 => simp at h2
  · intro h
    match l, h, hsz, hget with
    | [c], h, hsz, hget =>
      simp only [nameL, small, Bool.and_eq_true, decide_eq_true_eq] at h
      refine ⟨fun k hk => ?_, by rw [hsz]; simp, by rw [hsz]; simp⟩
      have hk' : k = 0 := by rw [hsz] at hk; simp at hk; omega
      subst hk'
      simpa [hget] using h
    | [c, d], h, hsz, hget =>
      simp only [nameL, small, Bool.and_eq_true, decide_eq_true_eq] at h
      refine ⟨fun k hk => ?_, by rw [hsz]; simp, by rw [hsz]; simp⟩
      rcases (show k = 0 ∨ k = 1 by rw [hsz] at hk; simp at hk; omega) with rfl | rfl
      · simpa [hget] using h.1
      · simpa [hget] using h.2

/-- The words of the texts. -/
def bodyL (k : Int) (a b : List UInt8) : List UInt8 :=
  if k = 1 then [115, 107, 105, 112]
  else if k = 2 then a ++ [61, 110, 117, 108, 108]
  else if k = 3 then a ++ [61, 110, 101, 119]
  else if k = 4 then a ++ 61 :: b
  else if k = 5 then a ++ 61 :: (b ++ [46, 110])
  else if k = 6 then a ++ [46, 110, 61, 110, 117, 108, 108]
  else if k = 7 then a ++ 46 :: 110 :: 61 :: b
  else if k = 8 then 102 :: 114 :: 101 :: 101 :: 32 :: a
  else if k = 9 then a ++ [61, 61, 110, 117, 108, 108]
  else if k = 10 then a ++ [33, 61, 110, 117, 108, 108]
  else if k = 11 then a ++ 61 :: 61 :: b
  else if k = 12 then a ++ 33 :: 61 :: b
  else []
def canL (l : List UInt8) (used : Bool) : Bool := if used then nameL l else l.isEmpty
def okL (k : Int) (a b : List UInt8) : Bool := canL a (decide (1 ≤ namesN k)) && canL b (decide (2 ≤ namesN k))
def textL (k : Int) (a b : List UInt8) : List UInt8 := if okL k a b then bodyL k a b else []

def nullOr (x y : Int) (l r : List UInt8) : Int × List UInt8 × List UInt8 := if r = [110, 117, 108, 108] then (x, l, []) else (y, l, r)
def assignL (l r : List UInt8) : Int × List UInt8 × List UInt8 :=
  if Lib.hasSuffix l [46, 110] then nullOr 6 7 (Lib.trimSuffix l [46, 110]) r
  else if Lib.hasSuffix r [46, 110] then (5, l, Lib.trimSuffix r [46, 110])
  else if r = [110, 101, 119] then (3, l, [])
  else nullOr 2 4 l r
def commandL (t : List UInt8) : Int × List UInt8 × List UInt8 :=
  if Lib.hasPrefix t [102, 114, 101, 101, 32] then (8, Lib.trimPrefix t [102, 114, 101, 101, 32], [])
  else if t = [115, 107, 105, 112] then (1, [], [])
  else (0, [], [])
def guessL (t : List UInt8) : Int × List UInt8 × List UInt8 :=
  if (Lib.cut t [61, 61]).2.2 then nullOr 9 11 (Lib.cut t [61, 61]).1 (Lib.cut t [61, 61]).2.1
  else if (Lib.cut t [33, 61]).2.2 then nullOr 10 12 (Lib.cut t [33, 61]).1 (Lib.cut t [33, 61]).2.1
  else if (Lib.cut t [61]).2.2 then assignL (Lib.cut t [61]).1 (Lib.cut t [61]).2.1
  else commandL t

/-- The longest words of small letters, from a place on, with the word that is under way. -/
def wordsFrom : List UInt8 → List UInt8 → List (List UInt8)
  | [], cur => if cur.isEmpty then [] else [cur]
  | c :: cs, cur => if small c then wordsFrom cs (cur ++ [c]) else if cur.isEmpty then wordsFrom cs [] else cur :: wordsFrom cs []
def namesL (t : List UInt8) : List (List UInt8) := [] :: [] :: (wordsFrom t []).take 3

theorem small_not {c d : UInt8} (h : small c = true) (hd : small d = false) : (d == c) = false ∧ (c == d) = false ∧ ¬ d = c ∧ ¬ c = d := by
  have hne : ¬ c = d := fun e => by rw [e, hd] at h; cases h
  exact ⟨by simpa using fun e => hne e.symm, by simpa using hne, fun e => hne e.symm, hne⟩
theorem nameL_cases {l : List UInt8} (h : nameL l = true) : (∃ c, l = [c] ∧ small c = true) ∨ ∃ c d, l = [c, d] ∧ small c = true ∧ small d = true := by
  match l, h with
  | [c], h => exact .inl ⟨c, rfl, h⟩
  | [c, d], h =>
    simp only [nameL, Bool.and_eq_true] at h
    exact .inr ⟨c, d, rfl, h.1, h.2⟩

theorem small_signs : small 61 = false ∧ small 33 = false ∧ small 46 = false ∧ small 32 = false := ⟨rfl, rfl, rfl, rfl⟩
theorem small_word : small 110 = true ∧ small 117 = true ∧ small 108 = true ∧ small 101 = true ∧ small 119 = true ∧ small 102 = true ∧ small 114 = true := ⟨rfl, rfl, rfl, rfl, rfl, rfl, rfl⟩

theorem guess_one (k : Int) (hk : k = 2 ∨ k = 3 ∨ k = 6 ∨ k = 8 ∨ k = 9 ∨ k = 10) (a : List UInt8) (ha : nameL a = true) :
    guessL (bodyL k a []) = (k, a, []) ∧ a ∈ namesL (bodyL k a []) ∧ bodyL k a [] ≠ [] := by
  rcases nameL_cases ha with ⟨c, rfl, hc⟩ | ⟨c, d, rfl, hc, hd⟩
  · obtain ⟨e1, e2, e3, e4⟩ := small_not hc (d := 61) rfl
    obtain ⟨b1, b2, b3, b4⟩ := small_not hc (d := 33) rfl
    obtain ⟨p1, p2, p3, p4⟩ := small_not hc (d := 46) rfl
    rcases hk with rfl | rfl | rfl | rfl | rfl | rfl <;>
      (refine ⟨?_, ?_, ?_⟩ <;> simp [bodyL, guessL, Lib.cut, Lib.index, nullOr, assignL, commandL, Lib.hasSuffix, Lib.hasPrefix, Lib.trimSuffix, Lib.trimPrefix, List.isSuffixOf, namesL, wordsFrom, small_signs, small_word, hc, e3, b3])
  · obtain ⟨e1, e2, e3, e4⟩ := small_not hc (d := 61) rfl
    obtain ⟨b1, b2, b3, b4⟩ := small_not hc (d := 33) rfl
    obtain ⟨p1, p2, p3, p4⟩ := small_not hc (d := 46) rfl
    obtain ⟨f1, f2, f3, f4⟩ := small_not hd (d := 61) rfl
    obtain ⟨g1, g2, g3, g4⟩ := small_not hd (d := 33) rfl
    obtain ⟨q1, q2, q3, q4⟩ := small_not hd (d := 46) rfl
    rcases hk with rfl | rfl | rfl | rfl | rfl | rfl <;>
      (refine ⟨?_, ?_, ?_⟩ <;> simp [bodyL, guessL, Lib.cut, Lib.index, nullOr, assignL, commandL, Lib.hasSuffix, Lib.hasPrefix, Lib.trimSuffix, Lib.trimPrefix, List.isSuffixOf, namesL, wordsFrom, small_signs, small_word, hc, e3, b3, p3, hd, f3, g3])

theorem guess_two (k : Int) (hk : k = 4 ∨ k = 5 ∨ k = 7 ∨ k = 11 ∨ k = 12) (a b : List UInt8) (ha : nameL a = true) (hb : nameL b = true) :
    guessL (bodyL k a b) = (k, a, b) ∧ a ∈ namesL (bodyL k a b) ∧ b ∈ namesL (bodyL k a b) ∧ bodyL k a b ≠ [] := by
  rcases nameL_cases ha with ⟨c, rfl, hc⟩ | ⟨c, d, rfl, hc, hd⟩ <;> rcases nameL_cases hb with ⟨x, rfl, hx⟩ | ⟨x, y, rfl, hx, hy⟩
  · obtain ⟨e1, e2, e3, e4⟩ := small_not hc (d := 61) rfl
    obtain ⟨b1, b2, b3, b4⟩ := small_not hc (d := 33) rfl
    obtain ⟨p1, p2, p3, p4⟩ := small_not hc (d := 46) rfl
    obtain ⟨u1, u2, u3, u4⟩ := small_not hx (d := 61) rfl
    obtain ⟨v1, v2, v3, v4⟩ := small_not hx (d := 33) rfl
    obtain ⟨t1, t2, t3, t4⟩ := small_not hx (d := 46) rfl
    rcases hk with rfl | rfl | rfl | rfl | rfl <;>
      (refine ⟨?_, ?_, ?_, ?_⟩ <;> simp [bodyL, guessL, Lib.cut, Lib.index, nullOr, assignL, Lib.hasSuffix, Lib.trimSuffix, List.isSuffixOf, namesL, wordsFrom, small_signs, small_word, hc, hx, e3, b3, u3, v3])
  · obtain ⟨e1, e2, e3, e4⟩ := small_not hc (d := 61) rfl
    obtain ⟨b1, b2, b3, b4⟩ := small_not hc (d := 33) rfl
    obtain ⟨p1, p2, p3, p4⟩ := small_not hc (d := 46) rfl
    obtain ⟨u1, u2, u3, u4⟩ := small_not hx (d := 61) rfl
    obtain ⟨v1, v2, v3, v4⟩ := small_not hx (d := 33) rfl
    obtain ⟨t1, t2, t3, t4⟩ := small_not hx (d := 46) rfl
    obtain ⟨r1, r2, r3, r4⟩ := small_not hy (d := 61) rfl
    obtain ⟨n1, n2, n3, n4⟩ := small_not hy (d := 33) rfl
    obtain ⟨m1, m2, m3, m4⟩ := small_not hy (d := 46) rfl
    rcases hk with rfl | rfl | rfl | rfl | rfl <;>
      (refine ⟨?_, ?_, ?_, ?_⟩ <;> simp [bodyL, guessL, Lib.cut, Lib.index, nullOr, assignL, Lib.hasSuffix, Lib.trimSuffix, List.isSuffixOf, namesL, wordsFrom, small_signs, small_word, hc, hx, hy, e3, b3, u3, v3, t3, r3, n3])
  · obtain ⟨e1, e2, e3, e4⟩ := small_not hc (d := 61) rfl
    obtain ⟨b1, b2, b3, b4⟩ := small_not hc (d := 33) rfl
    obtain ⟨p1, p2, p3, p4⟩ := small_not hc (d := 46) rfl
    obtain ⟨f1, f2, f3, f4⟩ := small_not hd (d := 61) rfl
    obtain ⟨g1, g2, g3, g4⟩ := small_not hd (d := 33) rfl
    obtain ⟨q1, q2, q3, q4⟩ := small_not hd (d := 46) rfl
    obtain ⟨u1, u2, u3, u4⟩ := small_not hx (d := 61) rfl
    obtain ⟨v1, v2, v3, v4⟩ := small_not hx (d := 33) rfl
    obtain ⟨t1, t2, t3, t4⟩ := small_not hx (d := 46) rfl
    rcases hk with rfl | rfl | rfl | rfl | rfl <;>
      (refine ⟨?_, ?_, ?_, ?_⟩ <;> simp [bodyL, guessL, Lib.cut, Lib.index, nullOr, assignL, Lib.hasSuffix, Lib.trimSuffix, List.isSuffixOf, namesL, wordsFrom, small_signs, small_word, hc, hd, hx, e3, b3, p3, f3, g3, u3, v3])
  · obtain ⟨e1, e2, e3, e4⟩ := small_not hc (d := 61) rfl
    obtain ⟨b1, b2, b3, b4⟩ := small_not hc (d := 33) rfl
    obtain ⟨p1, p2, p3, p4⟩ := small_not hc (d := 46) rfl
    obtain ⟨f1, f2, f3, f4⟩ := small_not hd (d := 61) rfl
    obtain ⟨g1, g2, g3, g4⟩ := small_not hd (d := 33) rfl
    obtain ⟨q1, q2, q3, q4⟩ := small_not hd (d := 46) rfl
    obtain ⟨u1, u2, u3, u4⟩ := small_not hx (d := 61) rfl
    obtain ⟨v1, v2, v3, v4⟩ := small_not hx (d := 33) rfl
    obtain ⟨t1, t2, t3, t4⟩ := small_not hx (d := 46) rfl
    obtain ⟨r1, r2, r3, r4⟩ := small_not hy (d := 61) rfl
    obtain ⟨n1, n2, n3, n4⟩ := small_not hy (d := 33) rfl
    obtain ⟨m1, m2, m3, m4⟩ := small_not hy (d := 46) rfl
    rcases hk with rfl | rfl | rfl | rfl | rfl <;>
      (refine ⟨?_, ?_, ?_, ?_⟩ <;> simp [bodyL, guessL, Lib.cut, Lib.index, nullOr, assignL, Lib.hasSuffix, Lib.trimSuffix, List.isSuffixOf, namesL, wordsFrom, small_signs, small_word, hc, hd, hx, hy, e3, b3, p3, f3, g3, u3, v3, t3, r3, n3])

theorem guess_text (k : Int) (a b : List UInt8) (h : textL k a b ≠ []) : guessL (textL k a b) = (k, a, b) ∧ (1 ≤ k ∧ k ≤ 12) ∧ a ∈ namesL (textL k a b) ∧ b ∈ namesL (textL k a b) := by
  by_cases hok : okL k a b = true
  · simp only [textL, hok, if_true] at h ⊢
    by_cases hk : 1 ≤ k ∧ k ≤ 12
    · simp only [okL, Bool.and_eq_true] at hok
      obtain ⟨h1, h2⟩ := hok
      rcases (show k = 1 ∨ (k = 2 ∨ k = 3 ∨ k = 6 ∨ k = 8 ∨ k = 9 ∨ k = 10) ∨ (k = 4 ∨ k = 5 ∨ k = 7 ∨ k = 11 ∨ k = 12) by omega) with rfl | hg | hg
      · simp [namesN, canL] at h1 h2
        subst h1; subst h2
        decide
      · have hn : namesN k = 1 := by rcases hg with rfl | rfl | rfl | rfl | rfl | rfl <;> rfl
        simp [hn, canL] at h1 h2
        subst h2
        have g := guess_one k hg a h1
        exact ⟨g.1, hk, g.2.1, by simp [namesL]⟩
      · have hn : namesN k = 2 := by rcases hg with rfl | rfl | rfl | rfl | rfl <;> rfl
        simp [hn, canL] at h1 h2
        have g := guess_two k hg a b h1 h2
        exact ⟨g.1, hk, g.2.1, g.2.2.1⟩
    · exact absurd (by unfold bodyL; repeat (rw [if_neg (by omega)])) h
  · exact absurd (by simp [textL, hok]) h

/-- A text is a statement's exactly if its guess has it for a text. -/
def parsesL (t : List UInt8) : Bool := !t.isEmpty && (textL (guessL t).1 (guessL t).2.1 (guessL t).2.2 == t)
theorem parses_of {k : Int} {a b t : List UInt8} (h : textL k a b = t) (hne : t ≠ []) : parsesL t = true ∧ guessL t = (k, a, b) := by
  subst h
  have g := guess_text k a b hne
  refine ⟨?_, g.1⟩
  unfold parsesL
  rw [g.1]
  simpa using hne
theorem parses_text {t : List UInt8} (h : parsesL t = true) : t ≠ [] ∧ textL (guessL t).1 (guessL t).2.1 (guessL t).2.2 = t := by
  simp only [parsesL, Bool.and_eq_true, Bool.not_eq_true', beq_iff_eq] at h
  refine ⟨fun e => ?_, h.2⟩
  rw [e] at h
  simp at h
theorem parses_names {t : List UInt8} (h : parsesL t = true) : (1 ≤ (guessL t).1 ∧ (guessL t).1 ≤ 12) ∧ (guessL t).2.1 ∈ namesL t ∧ (guessL t).2.2 ∈ namesL t := by
  obtain ⟨h1, h2⟩ := parses_text h
  have g := guess_text (guessL t).1 (guessL t).2.1 (guessL t).2.2 (by rw [h2]; exact h1)
  rw [h2] at g
  exact g.2

/-- The same over strings. -/
def textS (k : Int) (a b : ByteArray) : ByteArray := ⟨(textL k a.data.toList b.data.toList).toArray⟩
def guessK (t : ByteArray) : Int := (guessL t.data.toList).1
def guessA (t : ByteArray) : ByteArray := ⟨(guessL t.data.toList).2.1.toArray⟩
def guessB (t : ByteArray) : ByteArray := ⟨(guessL t.data.toList).2.2.toArray⟩
def parsesS (t : ByteArray) : Bool := parsesL t.data.toList
def namesS (t : ByteArray) : List ByteArray := (namesL t.data.toList).map fun l => ⟨l.toArray⟩
theorem textS_data (k : Int) (a b : ByteArray) : (textS k a b).data.toList = textL k a.data.toList b.data.toList := by simp [textS]
theorem parsesS_of {k : Int} {a b t : ByteArray} (h : textS k a b = t) (hne : t ≠ ⟨#[]⟩) : parsesS t = true ∧ guessK t = k ∧ guessA t = a ∧ guessB t = b := by
  subst h
  have hne' : (textS k a b).data.toList ≠ [] := fun e => hne (bytes_ext (by rw [e]))
  have g := parses_of (textS_data k a b).symm hne'
  refine ⟨g.1, ?_, ?_, ?_⟩
  · simp only [guessK, g.2]
  · simp only [guessA, g.2]
  · simp only [guessB, g.2]
theorem parsesS_text {t : ByteArray} (h : parsesS t = true) : t ≠ ⟨#[]⟩ ∧ textS (guessK t) (guessA t) (guessB t) = t := by
  have g := parses_text h
  refine ⟨fun e => g.1 (by rw [e]), bytes_ext ?_⟩
  rw [textS_data]
  simpa [guessK, guessA, guessB] using g.2
theorem parsesS_no {t : ByteArray} (h : parsesS t = false) (hne : t ≠ ⟨#[]⟩) (k : Int) (a b : ByteArray) : textS k a b ≠ t := by
  intro e
  have := (parsesS_of e hne).1
  rw [h] at this
  cases this
theorem parsesS_names {t : ByteArray} (h : parsesS t = true) : (1 ≤ guessK t ∧ guessK t ≤ 12) ∧ guessA t ∈ namesS t ∧ guessB t ∈ namesS t := by
  have g := parses_names h
  exact ⟨g.1, List.mem_map.2 ⟨_, g.2.1, rfl⟩, List.mem_map.2 ⟨_, g.2.2, rfl⟩⟩
theorem parsesS_empty : parsesS ⟨#[]⟩ = false := rfl
end Go.Proofs.YtpmmjaceehlpiaaGreatDoor
/-
  The model's ParseNumber and ParseInt: the number whose numeral the string is, and true; else 0 and false.
-/
namespace Go.Proofs.YtpmmjaceehlpiaaGreatDoor
open Go Go.RowKit

def PairEnd (lo hi : Int) (l : List UInt8) (w : World) (e : Ending) (w' : World) : Prop :=
  e = .returned (.tuple #[.int .i64 (if numN lo hi l = true then valOf l else 0), .bool (numN lo hi l)]) ∧ Below w.heap.size w w'
theorem pair_bad {lo hi : Int} {l : List UInt8} {w w' : World} (h : numN lo hi l = false) (hb : Below w.heap.size w w') : PairEnd lo hi l w (.returned (.tuple #[.int .i64 0, .bool false])) w' := by
  refine ⟨?_, hb⟩
  rw [h]
  rfl
theorem pair_good {lo hi : Int} {l : List UInt8} {v : Int} {w w' : World} (h : numN lo hi l = true) (hv : valOf l = v) (hb : Below w.heap.size w w') : PairEnd lo hi l w (.returned (.tuple #[.int .i64 v, .bool true])) w' := by
  refine ⟨?_, hb⟩
  rw [h, hv]
  rfl
/-- The reader's two outcomes, apart. -/
theorem specRead_yes (s : ByteArray) (most : Nat) (w : World) (hm : most ≤ 12) (hs : s.size ≤ maxLen) (h : goodFor most s.data.toList = true) :
    Calls Tryz.prog 159 #[.string s, .int .i64 most] w fun e w' => e = .returned (.tuple #[.int .i64 (valOf s.data.toList), .bool true]) ∧ Below w.heap.size w w' :=
  (specRead s most w hm hs).mono fun e w' ⟨he, hb⟩ => ⟨by rw [he, h]; rfl, hb⟩
theorem specRead_no (s : ByteArray) (most : Nat) (w : World) (hm : most ≤ 12) (hs : s.size ≤ maxLen) (h : goodFor most s.data.toList = false) :
    Calls Tryz.prog 159 #[.string s, .int .i64 most] w fun e w' => e = .returned (.tuple #[.int .i64 0, .bool false]) ∧ Below w.heap.size w w' :=
  (specRead s most w hm hs).mono fun e w' ⟨he, hb⟩ => ⟨by rw [he, h]; rfl, hb⟩

set_option maxRecDepth 100000 in
theorem specParseNumber (s : ByteArray) (w : World) (hs : s.size ≤ maxLen) :
    Calls Tryz.prog 143 #[.string s] w (PairEnd 0 999999 s.data.toList w) := by
  cases hg : goodFor 6 s.data.toList with
  | true =>
    by_cases hv : valOf s.data.toList < 0
    · have hn : numN 0 999999 s.data.toList = false := by rw [num_number, hg]; simp; omega
      have Hn := Lib.hid hn
      have Hg := Lib.hid hg
      clear hn hg
      go_enter Tryz.func143, Tryz.ntmps143
      go_wp2_with fail
      refine (specRead_yes s 6 _ (by omega) hs Hg.out).mono ?_
      rintro e w1 ⟨rfl, hb⟩
      go_wp2
      go_ret2
      exact pair_bad Hn.out hb
    · have hn : numN 0 999999 s.data.toList = true := by rw [num_number, hg]; simp; omega
      have Hn := Lib.hid hn
      have Hg := Lib.hid hg
      clear hn hg
      go_enter Tryz.func143, Tryz.ntmps143
      go_wp2_with fail
      refine (specRead_yes s 6 _ (by omega) hs Hg.out).mono ?_
      rintro e w1 ⟨rfl, hb⟩
      go_wp2
      go_ret2
      exact pair_good Hn.out rfl hb
  | false =>
    have hn : numN 0 999999 s.data.toList = false := by rw [num_number, hg]; rfl
    have Hn := Lib.hid hn
    have Hg := Lib.hid hg
    clear hn hg
    go_enter Tryz.func143, Tryz.ntmps143
    go_wp2_with fail
    refine (specRead_no s 6 _ (by omega) hs Hg.out).mono ?_
    rintro e w1 ⟨rfl, hb⟩
    go_wp2
    go_ret2
    exact pair_bad Hn.out hb
end Go.Proofs.YtpmmjaceehlpiaaGreatDoor
/-
  The model's words of a text: the longest words of small letters, in a new row.
-/
namespace Go.Proofs.YtpmmjaceehlpiaaGreatDoor
open Go Go.RowKit

def lS (l : List UInt8) : ByteArray := ⟨l.toArray⟩
theorem lS_data (l : List UInt8) : (lS l).data.toList = l := rfl
theorem lS_size (l : List UInt8) : (lS l).size = l.length := rfl
def wordsS (s : ByteArray) : List ByteArray := (wordsFrom s.data.toList []).map lS
theorem strVals_lS (qs : List (List UInt8)) (l : List UInt8) : strVals (qs.map lS) ++ [.string (lS l)] = strVals ((qs ++ [l]).map lS) := by simp [strVals]
theorem lS_snoc (l : List UInt8) (s : ByteArray) (k : Nat) (h : k < s.size) : lS l ++ s.extract k (k + 1) = lS (l ++ [s[k]]) := by
  apply bytes_ext
  have hl : k < s.data.toList.length := by simpa using h
  rw [ByteArray.data_append, Array.toList_append, lS_data, lS_data, Lib.extract_data, show k + 1 - k = 1 from by omega, List.drop_eq_getElem_cons hl, List.take_succ_cons, List.take_zero]
  rfl
theorem words_small {s : ByteArray} {k : Nat} (h : k < s.size) (cur : List UInt8) (hc : small s[k] = true) : wordsFrom (s.data.toList.drop k) cur = wordsFrom (s.data.toList.drop (k + 1)) (cur ++ [s[k]]) := by
  have hl : k < s.data.toList.length := by simpa using h
  rw [List.drop_eq_getElem_cons hl, wordsFrom, if_pos (by exact hc)]
  rfl
theorem words_other {s : ByteArray} {k : Nat} (h : k < s.size) (cur : List UInt8) (hc : small s[k] = false) : wordsFrom (s.data.toList.drop k) cur = if cur.isEmpty then wordsFrom (s.data.toList.drop (k + 1)) [] else cur :: wordsFrom (s.data.toList.drop (k + 1)) [] := by
  have hl : k < s.data.toList.length := by simpa using h
  rw [List.drop_eq_getElem_cons hl, wordsFrom, if_neg (by rw [show small s.data.toList[k] = small s[k] from rfl, hc]; decide)]
theorem words_end {s : ByteArray} (cur : List UInt8) : wordsFrom (s.data.toList.drop s.size) cur = if cur.isEmpty then [] else [cur] := by
  rw [List.drop_eq_nil_of_le (by simp), wordsFrom]
theorem small_of {c : UInt8} (h1 : ¬ (c.toNat : Int) < 97) (h2 : ¬ 122 < (c.toNat : Int)) : small c = true := by
  simp only [small, Bool.and_eq_true, decide_eq_true_eq]
  omega
theorem small_lo {c : UInt8} (h1 : (c.toNat : Int) < 97) : small c = false := by
  simp only [small, Bool.and_eq_false_iff, decide_eq_false_iff_not]
  omega
theorem small_hi {c : UInt8} (h1 : 122 < (c.toNat : Int)) : small c = false := by
  simp only [small, Bool.and_eq_false_iff, decide_eq_false_iff_not]
  omega

/-- What holds at a round's head: the words so far, the word under way. -/
def GoingW (s : ByteArray) (k : Nat) (qs : List (List UInt8)) (cur : List UInt8) : Prop := (k ≤ s.size → qs ++ wordsFrom (s.data.toList.drop k) cur = wordsFrom s.data.toList []) ∧ (s.size < k → qs = wordsFrom s.data.toList [])

/-- The word under way ends at k. -/
theorem going_flush {s : ByteArray} {k : Nat} {qs : List (List UInt8)} {cur : List UInt8} (h : GoingW s k qs cur) (hk : k < s.size) (hc : small s[k] = false) : GoingW s (k + 1) (if cur.isEmpty then qs else qs ++ [cur]) [] := by
  refine ⟨fun _ => ?_, fun h2 => by omega⟩
  have h1 := h.1 (by omega)
  rw [words_other hk cur hc] at h1
  cases cur with
  | nil => simpa using h1
  | cons x l => simpa using h1
theorem going_last {s : ByteArray} {qs : List (List UInt8)} {cur : List UInt8} (h : GoingW s s.size qs cur) : GoingW s (s.size + 1) (if cur.isEmpty then qs else qs ++ [cur]) [] := by
  refine ⟨fun h2 => by omega, fun _ => ?_⟩
  have h1 := h.1 (Nat.le_refl _)
  rw [words_end cur] at h1
  cases cur with
  | nil => simpa using h1
  | cons x l => simpa using h1
theorem going_next {s : ByteArray} {k : Nat} {qs : List (List UInt8)} {cur : List UInt8} (h : GoingW s k qs cur) (hk : k < s.size) (hc : small s[k] = true) : GoingW s (k + 1) qs (cur ++ [s[k]]) := by
  refine ⟨fun _ => ?_, fun h2 => by omega⟩
  have h1 := h.1 (by omega)
  rw [words_small hk cur hc] at h1
  exact h1

set_option maxRecDepth 100000 in
set_option maxHeartbeats 1600000 in
theorem specWords (s : ByteArray) (w : World) (hs : s.size ≤ 1099511627776) : Calls Tryz.prog 167 #[.string s] w (StrsEnd (wordsS s) w) := by
  obtain ⟨i0, hi, hz0, hz1, hz2⟩ := info_parts strInfoW
  go_enter Tryz.func167, Tryz.ntmps167
  go_wp2
  go_loopw [3, 4, 5] (fun v u i wr => ∃ (k m : Nat) (qs : List (List UInt8)) (cur : List UInt8), k ≤ s.size + 1 ∧ i = .int .i64 k ∧ u = .string (lS cur) ∧ cur.length ≤ k ∧ m = qs.length ∧ m ≤ k ∧ wr.ownsRow w.heap.size 9 1 v m (strVals (qs.map lS)) ∧ Below w.heap.size w wr ∧ GoingW s k qs cur)
    (fun _ _ i _ => s.size + 1 - (intOf i).toNat)
  case atStart => exact ⟨0, 0, [], [], by omega, rfl, rfl, by simp, rfl, Nat.le_refl _, World.ownsRow_made w #[] 0 (Nat.le_refl _) (Nat.zero_le _) rfl, (Below.refl _ _).alloc (Nat.le_refl _) _, fun _ => by simp, fun h => by omega⟩
  case round =>
    obtain ⟨k, m, qs, cur, hk, rfl, rfl, hcl, hm, hmk, hown, hbw, hgo⟩ := hrel
    have Hm := Lib.hid hm
    have Hown := Lib.hid hown
    have Hgo := Lib.hid hgo
    clear hm hown hgo
    by_cases hend : s.size < k
    · have Hq := Lib.hid (Hgo.out.2 hend)
      go_wp2
      go_ret
      have hown2 := Hown.out
      rw [Hq.out] at hown2
      exact strs_end (by rw [wordsS, List.length_map, ← Hq.out]; exact Hm.out) hown2 hbw
    · by_cases hlt : k < s.size
      · by_cases hok : (¬ (s[k].toNat : Int) < 97) ∧ ¬ 122 < (s[k].toNat : Int)
        · obtain ⟨hlo, hhi⟩ := hok
          have Hgo2 := Lib.hid (going_next Hgo.out hlt (small_of hlo hhi))
          have Hsn := Lib.hid (lS_snoc cur s k hlt)
          have hsz : (lS cur).size ≤ k := hcl
          have q0 : (0 : Int) ≤ (k : Int) := by omega
          have q1 : (k : Int) ≤ (k : Int) + 1 := by omega
          have q2 : (k : Int) + 1 ≤ (s.size : Int) := by omega
          go_wp2
          go_roundw
          case rel => exact ⟨k + 1, m, qs, cur ++ [s[k]], by omega, by go_num, by rw [← Hsn.out], by simp; omega, Hm.out, by omega, Hown.out, hbw, Hgo2.out⟩
          case measure => simp [intOf]; omega
        · by_cases hlo : (s[k].toNat : Int) < 97
          · have hlo2 : ¬ (97 : Int) ≤ (s[k].toNat : Int) := by omega
            cases hcur : cur.isEmpty with
            | true =>
              have Hgo2 := Lib.hid (show GoingW s (k + 1) qs [] from by have h := going_flush Hgo.out hlt (small_lo hlo); rwa [hcur] at h)
              have he : (lS cur).toList.isEmpty = true := by rw [ByteArray.toList_eq, lS_data]; exact hcur
              have he2 : (!(lS cur).toList.isEmpty) = false := by rw [he]; rfl
              clear hcur
              go_wp2
              go_roundw
              case rel => exact ⟨k + 1, m, qs, [], by omega, by go_num, rfl, by simp, Hm.out, by omega, Hown.out, hbw, Hgo2.out⟩
              case measure => simp [intOf]; omega
            | false =>
              have Hgo2 := Lib.hid (show GoingW s (k + 1) (qs ++ [cur]) [] from by have h := going_flush Hgo.out hlt (small_lo hlo); rwa [hcur] at h)
              have he : (lS cur).toList.isEmpty = false := by rw [ByteArray.toList_eq, lS_data]; exact hcur
              have he2 : (!(lS cur).toList.isEmpty) = true := by rw [he]; rfl
              clear hcur
              go_wp2_with (at_builtin; refine wpList_append_own _ rfl (.tmp 38) (.tmp 40) 24 rfl w.heap.size 9 i0 (.string ⟨#[]⟩) 1 16 Tryz.underlying24 hi hz0 hz1 hz2 rfl (by decide) _ m _ rfl (Hown.out.alloc _) ⟨wr.heap.size, 0, none⟩ 1 1 [.string (lS cur)] rfl rfl (cell_one _) (string_oneCell _) (by unfold maxLen; omega) (by omega) (Nat.le_trans hbw.size (by simp)) ?_; intro v2 w2 hown2 hg2 _; have hb2 := own_below (Hown.out.alloc _) hg2 (Nat.le_trans hbw.size (by simp)) (hbw.alloc hbw.size _); clear hg2)
              go_roundw
              case rel => exact ⟨k + 1, m + 1, qs ++ [cur], [], by omega, by go_num, rfl, by simp, by rw [List.length_append, List.length_singleton, Hm.out], by omega, by rw [← strVals_lS]; exact hown2, hb2, Hgo2.out⟩
              case measure => simp [intOf]; omega
          · have hhi : 122 < (s[k].toNat : Int) := by omega
            have hhi2 : ¬ (s[k].toNat : Int) ≤ 122 := by omega
            cases hcur : cur.isEmpty with
            | true =>
              have Hgo2 := Lib.hid (show GoingW s (k + 1) qs [] from by have h := going_flush Hgo.out hlt (small_hi hhi); rwa [hcur] at h)
              have he : (lS cur).toList.isEmpty = true := by rw [ByteArray.toList_eq, lS_data]; exact hcur
              have he2 : (!(lS cur).toList.isEmpty) = false := by rw [he]; rfl
              clear hcur
              go_wp2
              go_roundw
              case rel => exact ⟨k + 1, m, qs, [], by omega, by go_num, rfl, by simp, Hm.out, by omega, Hown.out, hbw, Hgo2.out⟩
              case measure => simp [intOf]; omega
            | false =>
              have Hgo2 := Lib.hid (show GoingW s (k + 1) (qs ++ [cur]) [] from by have h := going_flush Hgo.out hlt (small_hi hhi); rwa [hcur] at h)
              have he : (lS cur).toList.isEmpty = false := by rw [ByteArray.toList_eq, lS_data]; exact hcur
              have he2 : (!(lS cur).toList.isEmpty) = true := by rw [he]; rfl
              clear hcur
              go_wp2_with (at_builtin; refine wpList_append_own _ rfl (.tmp 38) (.tmp 40) 24 rfl w.heap.size 9 i0 (.string ⟨#[]⟩) 1 16 Tryz.underlying24 hi hz0 hz1 hz2 rfl (by decide) _ m _ rfl (Hown.out.alloc _) ⟨wr.heap.size, 0, none⟩ 1 1 [.string (lS cur)] rfl rfl (cell_one _) (string_oneCell _) (by unfold maxLen; omega) (by omega) (Nat.le_trans hbw.size (by simp)) ?_; intro v2 w2 hown2 hg2 _; have hb2 := own_below (Hown.out.alloc _) hg2 (Nat.le_trans hbw.size (by simp)) (hbw.alloc hbw.size _); clear hg2)
              go_roundw
              case rel => exact ⟨k + 1, m + 1, qs ++ [cur], [], by omega, by go_num, rfl, by simp, by rw [List.length_append, List.length_singleton, Hm.out], by omega, by rw [← strVals_lS]; exact hown2, hb2, Hgo2.out⟩
              case measure => simp [intOf]; omega
      · have hks : k = s.size := by omega
        have Hks := Lib.hid hks
        clear hks
        cases hcur : cur.isEmpty with
        | true =>
          have Hgo2 := Lib.hid (show GoingW s (k + 1) qs [] from by have h := going_last (s := s) (qs := qs) (cur := cur) (by rw [← Hks.out]; exact Hgo.out); rw [← Hks.out] at h; rwa [hcur] at h)
          have he : (lS cur).toList.isEmpty = true := by rw [ByteArray.toList_eq, lS_data]; exact hcur
          have he2 : (!(lS cur).toList.isEmpty) = false := by rw [he]; rfl
          clear hcur
          go_wp2
          go_roundw
          case rel => exact ⟨k + 1, m, qs, [], by omega, by go_num, rfl, by simp, Hm.out, by omega, Hown.out, hbw, Hgo2.out⟩
          case measure => simp [intOf]; omega
        | false =>
          have Hgo2 := Lib.hid (show GoingW s (k + 1) (qs ++ [cur]) [] from by have h := going_last (s := s) (qs := qs) (cur := cur) (by rw [← Hks.out]; exact Hgo.out); rw [← Hks.out] at h; rwa [hcur] at h)
          have he : (lS cur).toList.isEmpty = false := by rw [ByteArray.toList_eq, lS_data]; exact hcur
          have he2 : (!(lS cur).toList.isEmpty) = true := by rw [he]; rfl
          clear hcur
          go_wp2_with (at_builtin; refine wpList_append_own _ rfl (.tmp 38) (.tmp 40) 24 rfl w.heap.size 9 i0 (.string ⟨#[]⟩) 1 16 Tryz.underlying24 hi hz0 hz1 hz2 rfl (by decide) _ m _ rfl (Hown.out.alloc _) ⟨wr.heap.size, 0, none⟩ 1 1 [.string (lS cur)] rfl rfl (cell_one _) (string_oneCell _) (by unfold maxLen; omega) (by omega) (Nat.le_trans hbw.size (by simp)) ?_; intro v2 w2 hown2 hg2 _; have hb2 := own_below (Hown.out.alloc _) hg2 (Nat.le_trans hbw.size (by simp)) (hbw.alloc hbw.size _); clear hg2)
          go_roundw
          case rel => exact ⟨k + 1, m + 1, qs ++ [cur], [], by omega, by go_num, rfl, by simp, by rw [List.length_append, List.length_singleton, Hm.out], by omega, by rw [← strVals_lS]; exact hown2, hb2, Hgo2.out⟩
          case measure => simp [intOf]; omega
end Go.Proofs.YtpmmjaceehlpiaaGreatDoor
/-
  The text of a statement: the walks of the program's function and of the model's.
-/
namespace Go.Proofs.YtpmmjaceehlpiaaGreatDoor
open Go Go.RowKit

def canS (s : ByteArray) (used : Bool) : Bool := if used then goodName s else s.toList.isEmpty
theorem canS_list (s : ByteArray) (used : Bool) : canS s used = canL s.data.toList used := by
  cases used
  · simp [canS, canL, ByteArray.toList_eq]
  · simp [canS, canL, goodName_list]
theorem textS_no {k : Int} {a b : ByteArray} (h : ¬ (canS a (decide (1 ≤ namesN k)) = true ∧ canS b (decide (2 ≤ namesN k)) = true)) : textS k a b = ⟨#[]⟩ := by
  rw [canS_list, canS_list] at h
  simp only [textS, textL, okL, Bool.and_eq_true, if_neg h]
theorem textS_yes {k : Int} {a b s : ByteArray} (h1 : canS a (decide (1 ≤ namesN k)) = true) (h2 : canS b (decide (2 ≤ namesN k)) = true) (h : s.data.toList = bodyL k a.data.toList b.data.toList) : s = textS k a b := by
  apply bytes_ext
  rw [textS_data, h, textL, if_pos]
  rw [canS_list] at h1 h2
  simp [okL, h1, h2]
theorem canS_size {s : ByteArray} {u : Bool} (h : canS s u = true) : s.size ≤ 2 := by
  cases u
  · have : s.data.toList = [] := by simpa [canS, ByteArray.toList_eq] using h
    have h2 : s.size = s.data.toList.length := by simp
    rw [h2, this]; simp
  · simp only [canS, if_true, goodName, decide_eq_true_eq] at h
    exact h.2.2

theorem ret_str {x y : ByteArray} (h : x = y) : Ending.returned (.string x) = .returned (.string y) := by rw [h]
theorem kinds0 {k : Int} (h : namesN k = 0) : k = 1 := by
  by_cases hk : 1 ≤ k ∧ k ≤ 12
  · rcases kinds hk with rfl | rfl | rfl | rfl | rfl | rfl | rfl | rfl | rfl | rfl | rfl | rfl <;> simp [namesN] at h ⊢
  · rw [namesN_none hk] at h; cases h
theorem kinds1 {k : Int} (h : namesN k = 1) : k = 2 ∨ k = 3 ∨ k = 6 ∨ k = 8 ∨ k = 9 ∨ k = 10 := by
  by_cases hk : 1 ≤ k ∧ k ≤ 12
  · rcases kinds hk with rfl | rfl | rfl | rfl | rfl | rfl | rfl | rfl | rfl | rfl | rfl | rfl <;> simp [namesN] at h ⊢
  · rw [namesN_none hk] at h; cases h
theorem kinds2 {k : Int} (h : namesN k = 2) : k = 4 ∨ k = 5 ∨ k = 7 ∨ k = 11 ∨ k = 12 := by
  by_cases hk : 1 ≤ k ∧ k ≤ 12
  · rcases kinds hk with rfl | rfl | rfl | rfl | rfl | rfl | rfl | rfl | rfl | rfl | rfl | rfl <;> simp [namesN] at h ⊢
  · rw [namesN_none hk] at h; cases h
theorem name_long2 {s : ByteArray} (h : goodName s = true) : s.size ≤ 2 := by
  simp only [goodName, decide_eq_true_eq] at h
  exact h.2.2
theorem name_full {s : ByteArray} (h : goodName s = true) : s.toList.isEmpty = false := by
  simp only [goodName, decide_eq_true_eq] at h
  have h2 : s.size = s.data.toList.length := by simp
  rw [ByteArray.toList_eq]
  cases hh : s.data.toList with
  | nil => rw [hh, List.length_nil] at h2; omega
  | cons x l => rfl

theorem bodyL_none {k : Int} (hk : ¬ (1 ≤ k ∧ k ≤ 12)) (a b : List UInt8) : bodyL k a b = [] := by
  unfold bodyL
  repeat (rw [if_neg (by omega)])
theorem names_some {k : Int} (hk : 1 ≤ k ∧ k ≤ 12) : 0 ≤ namesN k := by
  rcases kinds hk with rfl | rfl | rfl | rfl | rfl | rfl | rfl | rfl | rfl | rfl | rfl | rfl <;> decide

set_option maxHeartbeats 3200000 in
theorem specStmtText (k : Int) (a b : ByteArray) (w : World) (ha : a.size ≤ maxLen) (hb : b.size ≤ maxLen) :
    Calls Tryz.prog 163 #[stV k a b] w (GaveB (.string (textS k a b)) w) := by
  have hB1 : Below w.heap.size w (w.alloc (.cells #[.int .i64 k, .string a, .string b] 83)) := (Below.refl _ _).alloc (Nat.le_refl _) _
  rcases namesN_four k with hn | hn | hn | hn
  · have HT := Lib.hid (show textS k a b = ⟨#[]⟩ from by simp [textS, textL, bodyL_none (k := k) (fun hk => by have := names_some hk; omega)])
    rw [HT.out]
    have HN := Lib.hid hn
    clear hn HT
    go_enter Tryz.func163, Tryz.ntmps163
    go_wp2_with fail
    refine (specNamesOf _ _).mono ?_
    rw [HN.out]
    rintro e w1 ⟨rfl, rfl⟩
    go_wp2
    go_ret
    exact ⟨rfl, hB1⟩
  · cases hga : goodName a with
    | true =>
      have hae := name_full hga
      rw [textS_no (k := k) (a := a) (b := b) (by simp [canS, hn, hae])]
      have HN := Lib.hid hn
      have HA := Lib.hid hga
      clear hn hga hae
      go_enter Tryz.func163, Tryz.ntmps163
      go_wp2_with fail
      refine (specNamesOf _ _).mono ?_
      rw [HN.out]
      rintro e w1 ⟨rfl, rfl⟩
      go_wp2_with fail
      refine (specIsName a _ ha).mono ?_
      rw [HA.out]
      rintro e w1 ⟨rfl, rfl⟩
      go_wp2
      go_ret
      exact ⟨rfl, hB1⟩
    | false =>
      cases hgb : goodName b with
      | true =>
        have hbe := name_full hgb
        rw [textS_no (k := k) (a := a) (b := b) (by simp [canS, hn, hbe])]
        have HN := Lib.hid hn
        have HA := Lib.hid hga
        have HB := Lib.hid hgb
        clear hn hga hgb hbe
        go_enter Tryz.func163, Tryz.ntmps163
        go_wp2_with fail
        refine (specNamesOf _ _).mono ?_
        rw [HN.out]
        rintro e w1 ⟨rfl, rfl⟩
        go_wp2_with fail
        refine (specIsName a _ ha).mono ?_
        rw [HA.out]
        rintro e w1 ⟨rfl, rfl⟩
        go_wp2_with fail
        refine (specIsName b _ hb).mono ?_
        rw [HB.out]
        rintro e w1 ⟨rfl, rfl⟩
        go_wp2
        go_ret
        exact ⟨rfl, hB1⟩
      | false =>
        cases hae : a.toList.isEmpty with
        | false =>
          rw [textS_no (k := k) (a := a) (b := b) (by simp [canS, hn, hae])]
          have HN := Lib.hid hn
          have HA := Lib.hid hga
          have HB := Lib.hid hgb
          clear hn hga hgb
          go_enter Tryz.func163, Tryz.ntmps163
          go_wp2_with fail
          refine (specNamesOf _ _).mono ?_
          rw [HN.out]
          rintro e w1 ⟨rfl, rfl⟩
          go_wp2_with fail
          refine (specIsName a _ ha).mono ?_
          rw [HA.out]
          rintro e w1 ⟨rfl, rfl⟩
          go_wp2_with fail
          refine (specIsName b _ hb).mono ?_
          rw [HB.out]
          rintro e w1 ⟨rfl, rfl⟩
          go_wp2
          go_ret
          exact ⟨rfl, hB1⟩
        | true =>
          cases hbe : b.toList.isEmpty with
          | false =>
            rw [textS_no (k := k) (a := a) (b := b) (by simp [canS, hn, hae, hbe])]
            have HN := Lib.hid hn
            have HA := Lib.hid hga
            have HB := Lib.hid hgb
            clear hn hga hgb
            go_enter Tryz.func163, Tryz.ntmps163
            go_wp2_with fail
            refine (specNamesOf _ _).mono ?_
            rw [HN.out]
            rintro e w1 ⟨rfl, rfl⟩
            go_wp2_with fail
            refine (specIsName a _ ha).mono ?_
            rw [HA.out]
            rintro e w1 ⟨rfl, rfl⟩
            go_wp2_with fail
            refine (specIsName b _ hb).mono ?_
            rw [HB.out]
            rintro e w1 ⟨rfl, rfl⟩
            go_wp2
            go_ret
            exact ⟨rfl, hB1⟩
          | true =>
            have HT := Lib.hid (show ∀ s : ByteArray, s.data.toList = bodyL k a.data.toList b.data.toList → s = textS k a b from fun s h => textS_yes (by simp [canS, hn, hae]) (by simp [canS, hn, hbe]) h)
            generalize htt : textS k a b = tt at *
            clear htt
            have HN := Lib.hid hn
            have HA := Lib.hid hga
            have HB := Lib.hid hgb
            clear hn hga hgb
            rcases (show k = 1 from kinds0 HN.out) with rfl
            all_goals
              go_enter Tryz.func163, Tryz.ntmps163
              go_wp2_with fail
              refine (specNamesOf _ _).mono ?_
              rw [HN.out]
              rintro e w1 ⟨rfl, rfl⟩
              go_wp2_with fail
              refine (specIsName a _ ha).mono ?_
              rw [HA.out]
              rintro e w1 ⟨rfl, rfl⟩
              go_wp2_with fail
              refine (specIsName b _ hb).mono ?_
              rw [HB.out]
              rintro e w1 ⟨rfl, rfl⟩
              go_wp2
              go_ret
              exact ⟨ret_str (HT.out _ (by simp [bodyL])), hB1⟩
  · cases hga : goodName a with
    | false =>
      rw [textS_no (k := k) (a := a) (b := b) (by simp [canS, hn, hga])]
      have HN := Lib.hid hn
      have HA := Lib.hid hga
      clear hn hga
      go_enter Tryz.func163, Tryz.ntmps163
      go_wp2_with fail
      refine (specNamesOf _ _).mono ?_
      rw [HN.out]
      rintro e w1 ⟨rfl, rfl⟩
      go_wp2_with fail
      refine (specIsName a _ ha).mono ?_
      rw [HA.out]
      rintro e w1 ⟨rfl, rfl⟩
      go_wp2
      go_ret
      exact ⟨rfl, hB1⟩
    | true =>
      have za := name_long2 hga
      cases hgb : goodName b with
      | true =>
        have hbe := name_full hgb
        rw [textS_no (k := k) (a := a) (b := b) (by simp [canS, hn, hga, hbe])]
        have HN := Lib.hid hn
        have HA := Lib.hid hga
        have HB := Lib.hid hgb
        clear hn hga hgb hbe
        go_enter Tryz.func163, Tryz.ntmps163
        go_wp2_with fail
        refine (specNamesOf _ _).mono ?_
        rw [HN.out]
        rintro e w1 ⟨rfl, rfl⟩
        go_wp2_with fail
        refine (specIsName a _ ha).mono ?_
        rw [HA.out]
        rintro e w1 ⟨rfl, rfl⟩
        go_wp2_with fail
        refine (specIsName b _ hb).mono ?_
        rw [HB.out]
        rintro e w1 ⟨rfl, rfl⟩
        go_wp2
        go_ret
        exact ⟨rfl, hB1⟩
      | false =>
        cases hbe : b.toList.isEmpty with
        | false =>
          rw [textS_no (k := k) (a := a) (b := b) (by simp [canS, hn, hga, hbe])]
          have HN := Lib.hid hn
          have HA := Lib.hid hga
          have HB := Lib.hid hgb
          clear hn hga hgb
          go_enter Tryz.func163, Tryz.ntmps163
          go_wp2_with fail
          refine (specNamesOf _ _).mono ?_
          rw [HN.out]
          rintro e w1 ⟨rfl, rfl⟩
          go_wp2_with fail
          refine (specIsName a _ ha).mono ?_
          rw [HA.out]
          rintro e w1 ⟨rfl, rfl⟩
          go_wp2_with fail
          refine (specIsName b _ hb).mono ?_
          rw [HB.out]
          rintro e w1 ⟨rfl, rfl⟩
          go_wp2
          go_ret
          exact ⟨rfl, hB1⟩
        | true =>
          have HT := Lib.hid (show ∀ s : ByteArray, s.data.toList = bodyL k a.data.toList b.data.toList → s = textS k a b from fun s h => textS_yes (by simp [canS, hn, hga]) (by simp [canS, hn, hbe]) h)
          generalize htt : textS k a b = tt at *
          clear htt
          have HN := Lib.hid hn
          have HA := Lib.hid hga
          have HB := Lib.hid hgb
          clear hn hga hgb
          rcases (show k = 2 ∨ k = 3 ∨ k = 6 ∨ k = 8 ∨ k = 9 ∨ k = 10 from kinds1 HN.out) with rfl | rfl | rfl | rfl | rfl | rfl
          all_goals
            go_enter Tryz.func163, Tryz.ntmps163
            go_wp2_with fail
            refine (specNamesOf _ _).mono ?_
            rw [HN.out]
            rintro e w1 ⟨rfl, rfl⟩
            go_wp2_with fail
            refine (specIsName a _ ha).mono ?_
            rw [HA.out]
            rintro e w1 ⟨rfl, rfl⟩
            go_wp2_with fail
            refine (specIsName b _ hb).mono ?_
            rw [HB.out]
            rintro e w1 ⟨rfl, rfl⟩
            go_wp2
            go_ret
            exact ⟨ret_str (HT.out _ (by simp [bodyL])), hB1⟩
  · cases hga : goodName a with
    | false =>
      rw [textS_no (k := k) (a := a) (b := b) (by simp [canS, hn, hga])]
      have HN := Lib.hid hn
      have HA := Lib.hid hga
      clear hn hga
      go_enter Tryz.func163, Tryz.ntmps163
      go_wp2_with fail
      refine (specNamesOf _ _).mono ?_
      rw [HN.out]
      rintro e w1 ⟨rfl, rfl⟩
      go_wp2_with fail
      refine (specIsName a _ ha).mono ?_
      rw [HA.out]
      rintro e w1 ⟨rfl, rfl⟩
      go_wp2
      go_ret
      exact ⟨rfl, hB1⟩
    | true =>
      have za := name_long2 hga
      cases hgb : goodName b with
      | false =>
        rw [textS_no (k := k) (a := a) (b := b) (by simp [canS, hn, hga, hgb])]
        have HN := Lib.hid hn
        have HA := Lib.hid hga
        have HB := Lib.hid hgb
        clear hn hga hgb
        go_enter Tryz.func163, Tryz.ntmps163
        go_wp2_with fail
        refine (specNamesOf _ _).mono ?_
        rw [HN.out]
        rintro e w1 ⟨rfl, rfl⟩
        go_wp2_with fail
        refine (specIsName a _ ha).mono ?_
        rw [HA.out]
        rintro e w1 ⟨rfl, rfl⟩
        go_wp2_with fail
        refine (specIsName b _ hb).mono ?_
        rw [HB.out]
        rintro e w1 ⟨rfl, rfl⟩
        go_wp2
        go_ret
        exact ⟨rfl, hB1⟩
      | true =>
        have zb := name_long2 hgb
        have HT := Lib.hid (show ∀ s : ByteArray, s.data.toList = bodyL k a.data.toList b.data.toList → s = textS k a b from fun s h => textS_yes (by simp [canS, hn, hga]) (by simp [canS, hn, hgb]) h)
        generalize htt : textS k a b = tt at *
        clear htt
        have HN := Lib.hid hn
        have HA := Lib.hid hga
        have HB := Lib.hid hgb
        clear hn hga hgb
        rcases (show k = 4 ∨ k = 5 ∨ k = 7 ∨ k = 11 ∨ k = 12 from kinds2 HN.out) with rfl | rfl | rfl | rfl | rfl
        all_goals
          go_enter Tryz.func163, Tryz.ntmps163
          go_wp2_with fail
          refine (specNamesOf _ _).mono ?_
          rw [HN.out]
          rintro e w1 ⟨rfl, rfl⟩
          go_wp2_with fail
          refine (specIsName a _ ha).mono ?_
          rw [HA.out]
          rintro e w1 ⟨rfl, rfl⟩
          go_wp2_with fail
          refine (specIsName b _ hb).mono ?_
          rw [HB.out]
          rintro e w1 ⟨rfl, rfl⟩
          go_wp2
          go_ret
          exact ⟨ret_str (HT.out _ (by simp [bodyL])), hB1⟩
end Go.Proofs.YtpmmjaceehlpiaaGreatDoor
/-
  What the program guesses a text to be: the walks of its functions, the library's cuts by their contracts, and its ParseStmt.
-/
namespace Go.Proofs.YtpmmjaceehlpiaaGreatDoor
open Go Go.RowKit

/-- The signs, in their order. -/
def HasSigns (w : World) : Prop := w.var? Tryz.prog "loop.example/g00590/impl.stmtSigns" = some #[Value.string ⟨#[61, 61]⟩, .string ⟨#[33, 61]⟩, .string ⟨#[61]⟩]
theorem HasSigns.keeps {w w' : World} (h : HasSigns w) (hb : Below w.heap.size w w') : HasSigns w' := var_stays h hb
def gV (g : Int × List UInt8 × List UInt8) : Value := stV g.1 ⟨g.2.1.toArray⟩ ⟨g.2.2.toArray⟩

theorem spell_eq {s : ByteArray} {l : List UInt8} (h : s.data.toList = l) : (s.toList == l) = true := by rw [ByteArray.toList_eq, h]; simp
theorem spell_ne {s : ByteArray} {l : List UInt8} (h : ¬ s.data.toList = l) : (s.toList == l) = false := by rw [ByteArray.toList_eq]; simpa using h

theorem below_drewN (w : World) (n : Nat) : Below w.heap.size w (w.drewN n) := below_draws (Below.refl _ _) n
theorem cell_drewN (w : World) (n : Nat) (p : Addr) : (w.drewN n).cell? p = w.cell? p := (below_draws (Below.refl (p.block + 1) w) n).cell (Nat.lt_succ_self _)
abbrev cutV (l s r : ByteArray) : Value := .tuple #[.string l, .string s, .string r]
def GaveD (x : Value) (w : World) (e : Ending) (w' : World) : Prop := e = .returned x ∧ ∃ n, w' = w.drewN n
/-- strings.Cut at a sign. -/
def cutOf (t s : ByteArray) : List UInt8 × List UInt8 × Bool := Lib.cut t.data.toList s.data.toList
def cutL (t s : ByteArray) : ByteArray := ⟨(cutOf t s).1.toArray⟩
def cutR (t s : ByteArray) : ByteArray := ⟨(cutOf t s).2.1.toArray⟩
def cutF (t s : ByteArray) : Bool := (cutOf t s).2.2
def signA : ByteArray := ⟨#[61, 61]⟩
def signB : ByteArray := ⟨#[33, 61]⟩
def signC : ByteArray := ⟨#[61]⟩
def atSign (t : ByteArray) : Value := if cutF t signA then cutV (cutL t signA) signA (cutR t signA) else if cutF t signB then cutV (cutL t signB) signB (cutR t signB) else if cutF t signC then cutV (cutL t signC) signC (cutR t signC) else cutV ⟨#[]⟩ ⟨#[]⟩ ⟨#[]⟩

theorem Below.drewN_ {B : Nat} {w v : World} (h : Below B w v) (n : Nat) : Below B w (v.drewN n) := below_draws h n
theorem guess_at (t : ByteArray) : guessL t.data.toList = if cutF t signA then nullOr 9 11 (cutL t signA).data.toList (cutR t signA).data.toList else if cutF t signB then nullOr 10 12 (cutL t signB).data.toList (cutR t signB).data.toList else if cutF t signC then assignL (cutL t signC).data.toList (cutR t signC).data.toList else commandL t.data.toList := rfl
theorem cut_size (t s : ByteArray) : (cutL t s).size ≤ t.size ∧ (cutR t s).size ≤ t.size := by
  have h1 : (cutL t s).size = (cutOf t s).1.length := rfl
  have h2 : (cutR t s).size = (cutOf t s).2.1.length := rfl
  have h3 : t.size = t.data.toList.length := by simp
  rw [h1, h2, h3, cutOf, Lib.cut]
  split
  · simp only [List.length_take, List.length_drop]
    omega
  · simp

theorem gV_of (t : ByteArray) : gV (guessL t.data.toList) = stV (guessK t) (guessA t) (guessB t) := rfl
def parseV (t : ByteArray) : Value := if parsesS t then .tuple #[stV (guessK t) (guessA t) (guessB t), .bool true] else .tuple #[stV 0 ⟨#[]⟩ ⟨#[]⟩, .bool false]
theorem isSuffix_size (s : ByteArray) (l : List UInt8) : (Lib.trimSuffix s.data.toList l).length ≤ s.size := by
  have h3 : s.size = s.data.toList.length := by simp
  rw [h3, Lib.trimSuffix]
  split
  · simp only [List.length_take]; omega
  · omega
theorem isPrefix_size (s : ByteArray) (l : List UInt8) : (Lib.trimPrefix s.data.toList l).length ≤ s.size := by
  have h3 : s.size = s.data.toList.length := by simp
  rw [h3, Lib.trimPrefix]
  split
  · simp only [List.length_drop]; omega
  · omega
theorem nullOr_sizes {x y : Int} {l r : List UInt8} {n : Nat} (hl : l.length ≤ n) (hr : r.length ≤ n) : (nullOr x y l r).2.1.length ≤ n ∧ (nullOr x y l r).2.2.length ≤ n := by
  unfold nullOr
  split
  · exact ⟨hl, by simp⟩
  · exact ⟨hl, hr⟩
theorem guess_sizes (t : ByteArray) : (guessA t).size ≤ t.size ∧ (guessB t).size ≤ t.size := by
  have hA := cut_size t signA
  have hB := cut_size t signB
  have hC := cut_size t signC
  have e : ∀ s : ByteArray, s.data.toList.length = s.size := fun s => by simp
  show (guessL t.data.toList).2.1.length ≤ t.size ∧ (guessL t.data.toList).2.2.length ≤ t.size
  rw [guess_at]
  split
  · exact nullOr_sizes (by rw [e]; exact hA.1) (by rw [e]; exact hA.2)
  · split
    · exact nullOr_sizes (by rw [e]; exact hB.1) (by rw [e]; exact hB.2)
    · split
      · unfold assignL
        split
        · exact nullOr_sizes (Nat.le_trans (isSuffix_size _ _) hC.1) (by rw [e]; exact hC.2)
        · split
          · exact ⟨by rw [e]; exact hC.1, Nat.le_trans (isSuffix_size _ _) hC.2⟩
          · split
            · exact ⟨by rw [e]; exact hC.1, by simp⟩
            · exact nullOr_sizes (by rw [e]; exact hC.1) (by rw [e]; exact hC.2)
      · unfold commandL
        split
        · exact ⟨isPrefix_size _ _, by simp⟩
        · split
          · exact ⟨by simp, by simp⟩
          · exact ⟨by simp, by simp⟩

theorem size_zero {s : ByteArray} (h : s.toList.isEmpty = true) : s = ⟨#[]⟩ := bytes_ext (by simpa [ByteArray.toList_eq] using h)
theorem size_some {s : ByteArray} (h : s.toList.isEmpty = false) : s ≠ ⟨#[]⟩ := fun e => by rw [e, ByteArray.toList_eq] at h; simp at h
theorem parse_no {t : ByteArray} (h : parsesS t = false) (hne : t.toList.isEmpty = false) (k : Int) (a b : ByteArray) : ((textS k a b).toList == t.toList) = false := by
  rw [ByteArray.toList_eq, ByteArray.toList_eq]
  have := parsesS_no h (size_some hne) k a b
  simpa using fun e => this (bytes_ext (by simpa using e))
theorem parse_yes {t : ByteArray} (h : parsesS t = true) : ((textS (guessK t) (guessA t) (guessB t)).toList == t.toList) = true ∧ t.toList.isEmpty = false := by
  have g := parsesS_text h
  refine ⟨by rw [g.2]; simp, ?_⟩
  cases hh : t.toList.isEmpty with
  | false => rfl
  | true => exact absurd (size_zero hh) g.1

end Go.Proofs.YtpmmjaceehlpiaaGreatDoor
/-
  The text of a program as a list of bytes; bounds. Nothing here knows of the program's own text.
-/
namespace Go.Proofs.YtpmmjaceehlpiaaGreatDoor
open Go Go.RowKit

def edL (x : Ed) : List UInt8 := Lib.itoa x.f ++ 32 :: (Lib.itoa x.t ++ 32 :: (textS x.k x.a x.b).data.toList)
def progL (ss : List ByteArray) (p : Int) (es : List Ed) : List UInt8 := jn ss ⟨#[32]⟩ ++ 59 :: (Lib.itoa p ++ es.flatMap fun x => 59 :: edL x)
def progT (ss : List ByteArray) (p : Int) (es : List Ed) : ByteArray := if progB ss p es = true then ⟨(progL ss p es).toArray⟩ else ⟨#[]⟩
theorem progT_yes {ss : List ByteArray} {p : Int} {es : List Ed} (h : progB ss p es = true) : progT ss p es = ⟨(progL ss p es).toArray⟩ := by rw [progT, if_pos h]
theorem progT_no {ss : List ByteArray} {p : Int} {es : List Ed} (h : progB ss p es = false) : progT ss p es = ⟨#[]⟩ := by rw [progT, if_neg (by simp [h])]

theorem progL_next (ss : List ByteArray) (p : Int) (es : List Ed) (k : Nat) (h : k < es.length) : progL ss p (es.take (k + 1)) = progL ss p (es.take k) ++ 59 :: edL es[k] := by
  unfold progL
  rw [take_next es k h, List.flatMap_append]
  simp only [List.append_assoc, List.cons_append, List.flatMap_cons, List.flatMap_nil, List.append_nil]

theorem name_size {s : ByteArray} (h : goodName s = true) : s.size ≤ 2 := by
  simp only [goodName, decide_eq_true_eq] at h
  exact h.2.2
theorem total_le {ss : List ByteArray} {n : Nat} (h : ∀ s ∈ ss, s.size ≤ n) : total ss ≤ ss.length * n := by
  induction ss with
  | nil => simp [total]
  | cons s r ih =>
    have h1 := h s (by simp)
    have h2 := ih fun x hx => h x (by simp [hx])
    simp only [total, List.map_cons, List.sum_cons, List.length_cons, Nat.add_mul, Nat.one_mul] at h2 ⊢
    omega
theorem vars_small {ss : List ByteArray} (h : goodVars ss = true) : ss.length ≤ 4 ∧ total ss ≤ 8 := by
  have h1 := (of_decide_eq_true h).2
  have h2 : total ss ≤ ss.length * 2 := total_le fun s hs => by
    obtain ⟨k, hk, rfl⟩ := List.mem_iff_getElem.1 hs
    exact name_size (vars_at h hk).1
  omega
theorem bodyL_length (k : Int) (a b : List UInt8) (ha : a.length ≤ 2) (hb : b.length ≤ 2) : (bodyL k a b).length ≤ 12 := by
  unfold bodyL
  simp only [apply_ite List.length, List.length_append, List.length_cons, List.length_nil]
  by_cases h1 : k = 1
  · simp only [if_pos h1]; omega
  by_cases h2 : k = 2
  · simp only [if_neg h1, if_pos h2]; omega
  by_cases h3 : k = 3
  · simp only [if_neg h1, if_neg h2, if_pos h3]; omega
  by_cases h4 : k = 4
  · simp only [if_neg h1, if_neg h2, if_neg h3, if_pos h4]; omega
  by_cases h5 : k = 5
  · simp only [if_neg h1, if_neg h2, if_neg h3, if_neg h4, if_pos h5]; omega
  by_cases h6 : k = 6
  · simp only [if_neg h1, if_neg h2, if_neg h3, if_neg h4, if_neg h5, if_pos h6]; omega
  by_cases h7 : k = 7
  · simp only [if_neg h1, if_neg h2, if_neg h3, if_neg h4, if_neg h5, if_neg h6, if_pos h7]; omega
  by_cases h8 : k = 8
  · simp only [if_neg h1, if_neg h2, if_neg h3, if_neg h4, if_neg h5, if_neg h6, if_neg h7, if_pos h8]; omega
  by_cases h9 : k = 9
  · simp only [if_neg h1, if_neg h2, if_neg h3, if_neg h4, if_neg h5, if_neg h6, if_neg h7, if_neg h8, if_pos h9]; omega
  by_cases h10 : k = 10
  · simp only [if_neg h1, if_neg h2, if_neg h3, if_neg h4, if_neg h5, if_neg h6, if_neg h7, if_neg h8, if_neg h9, if_pos h10]; omega
  by_cases h11 : k = 11
  · simp only [if_neg h1, if_neg h2, if_neg h3, if_neg h4, if_neg h5, if_neg h6, if_neg h7, if_neg h8, if_neg h9, if_neg h10, if_pos h11]; omega
  by_cases h12 : k = 12
  · simp only [if_neg h1, if_neg h2, if_neg h3, if_neg h4, if_neg h5, if_neg h6, if_neg h7, if_neg h8, if_neg h9, if_neg h10, if_neg h11, if_pos h12]; omega
  simp only [if_neg h1, if_neg h2, if_neg h3, if_neg h4, if_neg h5, if_neg h6, if_neg h7, if_neg h8, if_neg h9, if_neg h10, if_neg h11, if_neg h12]; omega
theorem textS_small (k : Int) (a b : ByteArray) : (textS k a b).data.toList.length ≤ 12 := by
  by_cases h : canS a (decide (1 ≤ namesN k)) = true ∧ canS b (decide (2 ≤ namesN k)) = true
  · have ha := canS_size h.1
    have hb := canS_size h.2
    rw [canS_list, canS_list] at h
    rw [textS_data, textL, if_pos (by simp [okL, h.1, h.2])]
    exact bodyL_length _ _ _ (by simpa using ha) (by simpa using hb)
  · rw [textS_no h]
    simp
theorem edL_length (x : Ed) (hx : x.Ok) : (edL x).length ≤ 56 := by
  have h1 := Lib.itoa_length_le x.f hx.f.1 hx.f.2
  have h2 := Lib.itoa_length_le x.t hx.t.1 hx.t.2
  have h3 := textS_small x.k x.a x.b
  simp only [edL, List.length_append, List.length_cons]
  omega
theorem flat_length (es : List Ed) (h : ∀ x ∈ es, x.Ok) : (es.flatMap fun x => 59 :: edL x).length ≤ es.length * 57 := by
  induction es with
  | nil => simp
  | cons x r ih =>
    have h1 := edL_length x (h x (by simp))
    have h2 := ih fun y hy => h y (by simp [hy])
    simp only [List.flatMap_cons, List.length_append, List.length_cons, Nat.add_mul, Nat.one_mul] at h2 ⊢
    omega
theorem progL_length (ss : List ByteArray) (p : Int) (es : List Ed) (hs : goodVars ss = true) (hp : -9223372036854775808 ≤ p ∧ p ≤ 9223372036854775807) (h : ∀ x ∈ es, x.Ok) : (progL ss p es).length ≤ 34 + es.length * 57 := by
  have h0 := vars_small hs
  have h1 := jn_length ss ⟨#[32]⟩
  rw [show (⟨#[32]⟩ : ByteArray).size = 1 from rfl] at h1
  have h2 := Lib.itoa_length_le p hp.1 hp.2
  have h3 := flat_length es h
  simp only [progL, List.length_append, List.length_cons]
  omega

theorem join_flat (y : List UInt8) (l : List (List UInt8)) (sep : List UInt8) : Lib.join (y :: l) sep = y ++ l.flatMap fun x => sep ++ x := by
  rw [Lib.join_cons]
  rfl
theorem jn_parts (A B : List UInt8) (es : List Ed) : jn (⟨A.toArray⟩ :: ⟨B.toArray⟩ :: es.map fun x => ⟨(edL x).toArray⟩) ⟨#[59]⟩ = A ++ 59 :: (B ++ es.flatMap fun x => 59 :: edL x) := by
  simp [jn, join_flat, List.flatMap_map]
theorem jn_fields (x : Ed) : jn [⟨(Lib.itoa x.f).toArray⟩, ⟨(Lib.itoa x.t).toArray⟩, textS x.k x.a x.b] ⟨#[32]⟩ = edL x := by
  simp [jn, join_flat, edL]
theorem mk_append (l : List UInt8) (b : ByteArray) : (⟨l.toArray⟩ : ByteArray) ++ b = ⟨(l ++ b.data.toList).toArray⟩ := by
  apply bytes_ext
  simp
theorem mk_size (l : List UInt8) : (⟨l.toArray⟩ : ByteArray).size = l.length := rfl
end Go.Proofs.YtpmmjaceehlpiaaGreatDoor
/-
  The model's ParseStmt: it tries every kind with every two of the names, and finds the guess or nothing.
-/
namespace Go.Proofs.YtpmmjaceehlpiaaGreatDoor
open Go Go.RowKit

/-- The names that are tried. -/
theorem names_words (t : ByteArray) : namesS t = ⟨#[]⟩ :: ⟨#[]⟩ :: (wordsS t).take 3 := by
  simp only [namesS, namesL, wordsS, List.map_cons, List.map_take]
  rfl
theorem getD_atW {l : List ByteArray} {i : Nat} (h : i < l.length) : l.getD i ⟨#[]⟩ = l[i] := by simp [List.getD, h]
def Hit (t : ByteArray) (k : Int) (a b : ByteArray) : Prop := t.toList.isEmpty = false ∧ textS k a b = t
def Miss (t : ByteArray) (ns : List ByteArray) (i j k : Nat) : Prop :=
  ∀ i' j' k' : Nat, i' < ns.length → j' < ns.length → 1 ≤ k' → k' ≤ 12 → (i' < i ∨ i' = i ∧ j' < j ∨ i' = i ∧ j' = j ∧ k' < k) → ¬ Hit t k' (ns.getD i' ⟨#[]⟩) (ns.getD j' ⟨#[]⟩)
theorem miss_start (t : ByteArray) (ns : List ByteArray) : Miss t ns 0 0 1 := fun i' j' k' _ _ h1 _ h => by omega
theorem miss_k {t : ByteArray} {ns : List ByteArray} {i j k : Nat} (h : Miss t ns i j k) (hn : ¬ Hit t k (ns.getD i ⟨#[]⟩) (ns.getD j ⟨#[]⟩)) : Miss t ns i j (k + 1) := by
  intro i' j' k' hi hj h1 h2 hc
  by_cases hk : i' = i ∧ j' = j ∧ k' = k
  · obtain ⟨rfl, rfl, rfl⟩ := hk
    exact hn
  · exact h i' j' k' hi hj h1 h2 (by omega)
theorem miss_j {t : ByteArray} {ns : List ByteArray} {i j : Nat} (h : Miss t ns i j 13) : Miss t ns i (j + 1) 1 := by
  intro i' j' k' hi hj h1 h2 hc
  exact h i' j' k' hi hj h1 h2 (by omega)
theorem miss_i {t : ByteArray} {ns : List ByteArray} {i : Nat} (h : Miss t ns i ns.length 1) : Miss t ns (i + 1) 0 1 := by
  intro i' j' k' hi hj h1 h2 hc
  exact h i' j' k' hi hj h1 h2 (by omega)
theorem miss_end {t : ByteArray} (h : Miss t (namesS t) (namesS t).length 0 1) : parsesS t = false := by
  cases hp : parsesS t with
  | false => rfl
  | true =>
    exfalso
    obtain ⟨⟨k1, k2⟩, ha, hb⟩ := parsesS_names hp
    obtain ⟨i, hi, ei⟩ := List.getElem_of_mem ha
    obtain ⟨j, hj, ej⟩ := List.getElem_of_mem hb
    refine h i j (guessK t).toNat hi hj (by omega) (by omega) (.inl hi) ⟨(parse_yes hp).2, ?_⟩
    rw [getD_atW hi, getD_atW hj, ei, ej, show (((guessK t).toNat : Nat) : Int) = guessK t from by omega]
    exact (parsesS_text hp).2
theorem hit_value {t : ByteArray} {k : Int} {a b : ByteArray} (h : Hit t k a b) : parseV t = .tuple #[stV k a b, .bool true] := by
  obtain ⟨h1, h2, h3, h4⟩ := parsesS_of h.2 (size_some h.1)
  rw [parseV, if_pos h1, h2, h3, h4]
theorem miss_value {t : ByteArray} (h : parsesS t = false) : parseV t = .tuple #[stV 0 ⟨#[]⟩ ⟨#[]⟩, .bool false] := by
  rw [parseV, if_neg (by rw [h]; decide)]

theorem own_full (w : World) {e : TypeId} (cur : Array Value) (n : Nat) (hn : cur.size = n) (hm : n ≤ maxLen) : (w.alloc (.cells cur e)).ownsRow w.heap.size e 1 (.slice (some ⟨w.heap.size, 0, none⟩) n n) n cur.toList :=
  ⟨by simpa using hn, .inr ⟨w.heap.size, n, cur, rfl, Nat.le_refl _, heap_alloc_new w _, Nat.le_refl _, hm, by omega, by rw [List.take_of_length_le (by simp; omega)]⟩⟩
theorem own_someW {w : World} {base e n : Nat} {v : Value} {xs : List Value} (h : w.ownsRow base e 1 v n xs) (hn : 1 ≤ n) : ∃ g cap, v = .slice (some ⟨g, 0, none⟩) n cap := by
  rcases h.2 with ⟨_, h0⟩ | ⟨g, cap, cur, hv, _⟩
  · omega
  · exact ⟨g, cap, hv⟩
theorem wordsFrom_length : ∀ (l cur x : List UInt8), x ∈ wordsFrom l cur → x.length ≤ cur.length + l.length
  | [], cur, x, h => by
    unfold wordsFrom at h
    split at h
    · simp at h
    · simp at h
      subst h
      simp
  | c :: cs, cur, x, h => by
    unfold wordsFrom at h
    split at h
    · have := wordsFrom_length cs (cur ++ [c]) x h
      simp at this ⊢
      omega
    · split at h
      · have := wordsFrom_length cs [] x h
        simp at this ⊢
        omega
      · rcases List.mem_cons.1 h with h | h
        · subst h; simp
        · have := wordsFrom_length cs [] x h
          simp at this ⊢
          omega
theorem namesS_size {t x : ByteArray} (h : x ∈ namesS t) : x.size ≤ t.size := by
  obtain ⟨l, hl, rfl⟩ := List.mem_map.1 h
  show l.length ≤ t.size
  rcases List.mem_cons.1 hl with rfl | hl
  · simp
  · rcases List.mem_cons.1 hl with rfl | hl
    · simp
    · have := wordsFrom_length _ _ _ (List.mem_of_mem_take hl)
      simpa using this
theorem names_at {ns : List ByteArray} {t : ByteArray} (h : ∀ x ∈ ns, x.size ≤ t.size) (i : Nat) : (ns.getD i ⟨#[]⟩).size ≤ t.size := by
  by_cases hi : i < ns.length
  · rw [getD_atW hi]
    exact h _ (List.getElem_mem hi)
  · rw [show ns.getD i ⟨#[]⟩ = ⟨#[]⟩ from by rw [List.getD, List.getElem?_eq_none (by omega)]; rfl]
    exact Nat.zero_le _

theorem row_cell {W wr : World} {B g : Nat} {ns : List ByteArray} (h : Row W B (some ⟨g, 0, none⟩) (strVals ns)) (hB : B = W.heap.size) (hb : Below W.heap.size W wr) {i : Nat} (hi : i < ns.length) :
    wr.cell? ⟨g, i, none⟩ = some (.string (ns.getD i ⟨#[]⟩)) ∧ g < wr.heap.size := by
  obtain ⟨b, o, e, hbB, hc⟩ := h i (.string ns[i]) (by simp [strVals, hi])
  cases e
  subst hB
  rw [getD_atW hi]
  refine ⟨(hb.cell (p := ⟨g, i, none⟩) hbB).trans ?_, Nat.lt_of_lt_of_le hbB hb.size⟩
  rw [Nat.zero_add] at hc
  exact hc
set_option maxRecDepth 100000 in
set_option maxHeartbeats 3200000 in
theorem specParse (t : ByteArray) (w : World) (ht : t.size ≤ 2147483648) : Calls Tryz.prog 160 #[.string t] w (GaveB (parseV t) w) := by
  obtain ⟨i0, hi, hz0, hz1, hz2⟩ := info_parts strInfoW
  have hns := names_words t
  generalize hws : wordsS t = ws at *
  have Hns := Lib.hid hns
  have Hws := Lib.hid hws
  clear hns hws
  go_enter Tryz.func160, Tryz.ntmps160
  go_wp2_with fail
  refine (specWords t _ (by omega)).mono ?_
  rw [Hws.out]
  rintro e w1 ⟨a0, cap0, rfl, hcap0, ho0, hb1⟩
  have hB1 : Below w.heap.size w w1 := ((Below.refl _ _).alloc (Nat.le_refl _) _).trans (hb1.mono (by simp))
  have hr1 : Row w1 w1.heap.size a0 (strVals ws) := Row.owned ho0
  have hs1 : w.heap.size < w1.heap.size := by have h := hb1.size; simp at h; omega
  have hblk1 : w1.heap[w.heap.size]? = some (.cells #[.int .i64 0, .string ⟨#[]⟩, .string ⟨#[]⟩] 83 (0, 0)) := (hb1.block w.heap.size (by simp)).trans (heap_alloc_new w _)
  have HBLK1 := Lib.hid hblk1
  clear ho0 hb1 hblk1
  go_wp2
  go_loopw [5, 6] (fun v i wr => ∃ (k m g cap : Nat), k ≤ ws.length ∧ k ≤ 3 ∧ i = .int .i64 k ∧ v = .slice (some ⟨g, 0, none⟩) m cap ∧ m = k + 2 ∧ wr.ownsRow w1.heap.size 9 1 (.slice (some ⟨g, 0, none⟩) m cap) m (strVals (⟨#[]⟩ :: ⟨#[]⟩ :: ws.take k)) ∧ Below w1.heap.size w1 wr)
    (fun _ i _ => 3 - (intOf i).toNat)
  case atStart => exact ⟨0, 2, w1.heap.size, 2, by omega, by omega, rfl, rfl, rfl, own_full w1 #[.string ⟨#[]⟩, .string ⟨#[]⟩] 2 rfl (by decide), (Below.refl _ _).alloc (Nat.le_refl _) _⟩
  case round =>
    obtain ⟨k, m, g, cap, hk, hk3, rfl, rfl, hm, hown, hbw⟩ := hrel
    have Hown := Lib.hid hown
    have Hm := Lib.hid hm
    clear hown hm
    by_cases hgo : k < ws.length ∧ k < 3
    · obtain ⟨hkl, hk3'⟩ := hgo
      obtain ⟨b, o, rfl, hbB, hc⟩ := hr1 k (.string ws[k]) (by simp [strVals, hkl])
      have hc1 : wr.cell? ⟨b, o + k, none⟩ = some (.string ws[k]) := (hbw.cell (p := ⟨b, o + k, none⟩) hbB).trans hc
      have Htk := Lib.hid (show strVals (⟨#[]⟩ :: ⟨#[]⟩ :: ws.take k) ++ [.string ws[k]] = strVals (⟨#[]⟩ :: ⟨#[]⟩ :: ws.take (k + 1)) from by rw [take_next ws k hkl]; simp only [strVals, List.map_cons, List.map_append, List.map_nil, List.cons_append])
      clear hc
      have hkk : (k : Int) < (ws.length : Int) := by omega
      go_wp2_with (at_builtin; refine wpList_append_own _ rfl (.tmp 24) (.tmp 29) 24 rfl w1.heap.size 9 i0 (.string ⟨#[]⟩) 1 16 Tryz.underlying24 hi hz0 hz1 hz2 rfl (by decide) _ m _ rfl (Hown.out.alloc _) ⟨wr.heap.size, 0, none⟩ 1 1 [.string ws[k]] rfl rfl (cell_one _) (string_oneCell _) (by have := Hm.out; unfold maxLen; omega) (by have := Hm.out; omega) (Nat.le_trans hbw.size (by simp)) ?_; intro v2 w2 hown2 hg2 _; have hb2 := own_below (Hown.out.alloc _) hg2 (Nat.le_trans hbw.size (by simp)) (hbw.alloc hbw.size _); clear hg2)
      obtain ⟨g2, cap2, rfl⟩ := own_someW hown2 (by omega)
      go_roundw
      case rel => exact ⟨k + 1, m + 1, g2, cap2, by omega, by omega, by go_num, rfl, by rw [Hm.out], by rw [← Htk.out]; exact hown2, hb2⟩
      case measure => simp [intOf]; omega
    · have hne : (⟨#[]⟩ :: ⟨#[]⟩ :: ws.take k : List ByteArray) = namesS t := by
        rw [Hns.out]
        congr 2
        by_cases h3 : k = 3
        · rw [h3]
        · rw [List.take_of_length_le (by omega), List.take_of_length_le (by omega)]
      have hnl : (namesS t).length = m := by rw [← hne, Hm.out]; simp; omega
      have hsz : ∀ x ∈ namesS t, x.size ≤ t.size := fun x hx => namesS_size hx
      have hme : Miss t (namesS t) (namesS t).length 0 1 → parsesS t = false := miss_end
      have hown2 := Hown.out
      rw [hne] at hown2
      have hr2 : Row wr wr.heap.size (some ⟨g, 0, none⟩) (strVals (namesS t)) := Row.owned hown2
      have hm5 : m ≤ 5 := by rw [Hm.out]; omega
      have hBw : Below w.heap.size w wr := hB1.trans (hbw.mono hB1.size)
      have HBLK := Lib.hid (show wr.heap[w.heap.size]? = some (.cells #[.int .i64 0, .string ⟨#[]⟩, .string ⟨#[]⟩] 83 (0, 0)) from (hbw.block w.heap.size hs1).trans HBLK1.out)
      have hbw1 : w.heap.size < wr.heap.size := Nat.lt_of_lt_of_le hs1 hbw.size
      generalize namesS t = ns at *
      subst hnl
      have HR := Lib.hid hr2
      have HSZ := Lib.hid hsz
      have HME := Lib.hid hme
      clear hr2 hsz hme hown2 hne Hown Hm Hns Hws hr1 hB1 hbw hz0 hz1 hz2 hi
      obtain ⟨W, rfl⟩ : ∃ W : World, W = wr := ⟨_, rfl⟩
      have hguard : (decide ((k : Int) < (ws.length : Int)) && decide ((k : Int) < 3)) = false := by simp; omega
      by_cases hkl : k < ws.length
      · have hk3e : ¬ (k : Int) < 3 := by omega
        have hkl2 : (k : Int) < (ws.length : Int) := by omega
        go_wp2
        go_loopw [7] (fun i wq => ∃ i' : Nat, i' ≤ ns.length ∧ i = .int .i64 i' ∧ Below W.heap.size W wq ∧ Miss t ns i' 0 1) (fun i _ => ns.length - (intOf i).toNat)
        case atStart => exact ⟨0, by omega, rfl, Below.refl _ _, miss_start _ _⟩
        case round =>
          obtain ⟨i, hi, rfl, hbi, hmi⟩ := hrel
          have HMI := Lib.hid hmi
          clear hmi
          obtain ⟨wi, rfl⟩ : ∃ wi : World, wi = wr := ⟨_, rfl⟩
          by_cases hil : i < ns.length
          · go_wp2
            go_loopw [8] (fun j wq => ∃ j' : Nat, j' ≤ ns.length ∧ j = .int .i64 j' ∧ Below W.heap.size W wq ∧ Miss t ns i j' 1) (fun j _ => ns.length - (intOf j).toNat)
            case atStart => exact ⟨0, by omega, rfl, hbi, HMI.out⟩
            case round =>
              obtain ⟨j, hj, rfl, hbj, hmj⟩ := hrel
              have HMJ := Lib.hid hmj
              clear hmj
              obtain ⟨wj, rfl⟩ : ∃ wj : World, wj = wr := ⟨_, rfl⟩
              by_cases hjl : j < ns.length
              · go_wp2
                go_loopw [9] (fun q wq => ∃ q' : Nat, 1 ≤ q' ∧ q' ≤ 13 ∧ q = .int .i64 q' ∧ Below W.heap.size W wq ∧ Miss t ns i j q') (fun q _ => 13 - (intOf q).toNat)
                case atStart => exact ⟨1, by omega, by omega, rfl, hbj, HMJ.out⟩
                case round =>
                  obtain ⟨q, hq1, hq, rfl, hbq, hmq⟩ := hrel
                  have HMQ := Lib.hid hmq
                  clear hmq
                  by_cases hq12 : q ≤ 12
                  · obtain ⟨ci, hgl⟩ := row_cell HR.out rfl hbq hil
                    obtain ⟨cj, _⟩ := row_cell HR.out rfl hbq hjl
                    have hzi := names_at HSZ.out i
                    have hzj := names_at HSZ.out j
                    have hgn : ¬ g = wr.heap.size := by omega
                    generalize hni : ns.getD i ⟨#[]⟩ = si at *
                    generalize hnj : ns.getD j ⟨#[]⟩ = sj at *
                    have Hni := Lib.hid hni
                    have Hnj := Lib.hid hnj
                    clear hni hnj
                    have hB3 : Below W.heap.size W ((wr.alloc (.cells #[.int .i64 (q : Int), .string si, .string sj] 83)).drew) := (hbq.alloc hbq.size _).drew
                    cases he : t.toList.isEmpty with
                    | true =>
                      have he2 : (!t.toList.isEmpty) = false := by rw [he]; rfl
                      have HMQ2 := Lib.hid (miss_k HMQ.out (fun hh => by rw [Hit, he] at hh; cases hh.1))
                      go_wp2
                      go_region
                      go_wp2
                      go_roundw
                      case rel => exact ⟨q + 1, by omega, by omega, by go_num, hB3, HMQ2.out⟩
                      case measure => simp [intOf]; omega
                    | false =>
                      have he2 : (!t.toList.isEmpty) = true := by rw [he]; rfl
                      cases htx : (textS q si sj).toList == t.toList with
                      | true =>
                        have hst : textS q si sj = t := bytes_ext (by simpa [ByteArray.toList_eq] using htx)
                        have HPV := Lib.hid (hit_value ⟨he, hst⟩)
                        have HST := Lib.hid hst
                        have hself : (t.toList == t.toList) = true := by simp
                        clear htx hst
                        go_wp2
                        go_region
                        go_wp2_with fail
                        refine (specStmtText q si sj _ (by unfold maxLen; omega) (by unfold maxLen; omega)).mono ?_
                        rw [HST.out]
                        rintro e w2 ⟨rfl, hb2⟩
                        have hB5 : Below w.heap.size w w2 := hBw.trans ((hB3.trans (hb2.mono hB3.size)).mono hBw.size)
                        obtain ⟨hc2, hf2⟩ := bcell hb2
                        have hz2 : wr.heap.size < w2.heap.size := by have h := hb2.size; simp at h; omega
                        have hz3 : w.heap.size < wr.heap.size := by have h1 := hbw1; have h2 := hbq.size; omega
                        have hz4 : w.heap.size < wr.heap.size + 1 := by omega
                        have hz5 : w.heap.size < w2.heap.size := by omega
                        have hn5 : ¬ w.heap.size = wr.heap.size := by omega
                        have hblk : wr.heap[w.heap.size]? = some (.cells #[.int .i64 0, .string ⟨#[]⟩, .string ⟨#[]⟩] 83 (0, 0)) := (hbq.block w.heap.size hbw1).trans HBLK.out
                        have rc0 : wr.cell? ⟨w.heap.size, 0, none⟩ = some (.int .i64 0) := cell_of_row wr w.heap.size 0 _ _ (0, 0) hblk
                        have rf0 : wr.frozen? ⟨w.heap.size, 0, none⟩ = false := frozen_of_row wr w.heap.size 0 _ _ hblk
                        have rc1 : wr.cell? ⟨w.heap.size, 1, none⟩ = some (.string ⟨#[]⟩) := cell_of_row wr w.heap.size 1 _ _ (0, 0) hblk
                        have rf1 : wr.frozen? ⟨w.heap.size, 1, none⟩ = false := frozen_of_row wr w.heap.size 1 _ _ hblk
                        have rc2 : wr.cell? ⟨w.heap.size, 2, none⟩ = some (.string ⟨#[]⟩) := cell_of_row wr w.heap.size 2 _ _ (0, 0) hblk
                        have rf2 : wr.frozen? ⟨w.heap.size, 2, none⟩ = false := frozen_of_row wr w.heap.size 2 _ _ hblk
                        clear hblk
                        go_wp2
                        refine bodyPost_ret (v := .tuple #[stV (q : Int) si sj, .bool true]) (by simp [results, Tryz.results160, go_sem, hc2, hz3, hz4, rc0, rc1, rc2]) rfl ⟨by rw [HPV.out], ?_⟩
                        repeat (first | exact hB5 | refine Below.setCell ?_ (by simp <;> omega) _)
                      | false =>
                        have HMQ2 := Lib.hid (miss_k HMQ.out (fun hh => by rw [Hit, Hni.out, Hnj.out] at hh; rw [hh.2] at htx; simp at htx))
                        generalize hst : textS q si sj = tx at *
                        have HST := Lib.hid hst
                        clear hst
                        go_wp2
                        go_region
                        go_wp2_with fail
                        refine (specStmtText q si sj _ (by unfold maxLen; omega) (by unfold maxLen; omega)).mono ?_
                        rw [HST.out]
                        rintro e w2 ⟨rfl, hb2⟩
                        have hB5 : Below W.heap.size W w2 := hB3.trans (hb2.mono hB3.size)
                        go_wp2
                        go_roundw
                        case rel => exact ⟨q + 1, by omega, by omega, by go_num, hB5, HMQ2.out⟩
                        case measure => simp [intOf]; omega
                  · have hq13 : q = 13 := by omega
                    subst hq13
                    have HMJ2 := Lib.hid (miss_j HMQ.out)
                    go_wp2
                    go_roundw
                    case rel => exact ⟨j + 1, by omega, by go_num, hbq, HMJ2.out⟩
                    case measure => simp [intOf]; omega
              · have hje : j = ns.length := by omega
                have HMI2 := Lib.hid (miss_i (hje ▸ HMJ.out))
                clear hje
                go_wp2
                go_roundw
                case rel => exact ⟨i + 1, by omega, by go_num, hbj, HMI2.out⟩
                case measure => simp [intOf]; omega
          · have hie : i = ns.length := by omega
            have HPV := Lib.hid (miss_value (HME.out (hie ▸ HMI.out)))
            clear hie
            have hblk : wi.heap[w.heap.size]? = some (.cells #[.int .i64 0, .string ⟨#[]⟩, .string ⟨#[]⟩] 83 (0, 0)) := (hbi.block w.heap.size hbw1).trans HBLK.out
            have rc0 : wi.cell? ⟨w.heap.size, 0, none⟩ = some (.int .i64 0) := cell_of_row wi w.heap.size 0 _ _ (0, 0) hblk
            have rf0 : wi.frozen? ⟨w.heap.size, 0, none⟩ = false := frozen_of_row wi w.heap.size 0 _ _ hblk
            have rc1 : wi.cell? ⟨w.heap.size, 1, none⟩ = some (.string ⟨#[]⟩) := cell_of_row wi w.heap.size 1 _ _ (0, 0) hblk
            have rf1 : wi.frozen? ⟨w.heap.size, 1, none⟩ = false := frozen_of_row wi w.heap.size 1 _ _ hblk
            have rc2 : wi.cell? ⟨w.heap.size, 2, none⟩ = some (.string ⟨#[]⟩) := cell_of_row wi w.heap.size 2 _ _ (0, 0) hblk
            have rf2 : wi.frozen? ⟨w.heap.size, 2, none⟩ = false := frozen_of_row wi w.heap.size 2 _ _ hblk
            clear hblk
            have hBf := hBw.trans (hbi.mono hBw.size)
            have hz3 : w.heap.size < wi.heap.size := Nat.lt_of_lt_of_le hbw1 hbi.size
            go_wp2
            refine bodyPost_ret (v := .tuple #[stV 0 ⟨#[]⟩ ⟨#[]⟩, .bool false]) (by simp [results, Tryz.results160, go_sem, rc0, rc1, rc2]) rfl ⟨by rw [HPV.out], ?_⟩
            repeat (first | exact hBf | refine Below.setCell ?_ (by simp <;> omega) _)
      · have hkl2 : ¬ (k : Int) < (ws.length : Int) := by omega
        go_wp2
        go_loopw [7] (fun i wq => ∃ i' : Nat, i' ≤ ns.length ∧ i = .int .i64 i' ∧ Below W.heap.size W wq ∧ Miss t ns i' 0 1) (fun i _ => ns.length - (intOf i).toNat)
        case atStart => exact ⟨0, by omega, rfl, Below.refl _ _, miss_start _ _⟩
        case round =>
          obtain ⟨i, hi, rfl, hbi, hmi⟩ := hrel
          have HMI := Lib.hid hmi
          clear hmi
          obtain ⟨wi, rfl⟩ : ∃ wi : World, wi = wr := ⟨_, rfl⟩
          by_cases hil : i < ns.length
          · go_wp2
            go_loopw [8] (fun j wq => ∃ j' : Nat, j' ≤ ns.length ∧ j = .int .i64 j' ∧ Below W.heap.size W wq ∧ Miss t ns i j' 1) (fun j _ => ns.length - (intOf j).toNat)
            case atStart => exact ⟨0, by omega, rfl, hbi, HMI.out⟩
            case round =>
              obtain ⟨j, hj, rfl, hbj, hmj⟩ := hrel
              have HMJ := Lib.hid hmj
              clear hmj
              obtain ⟨wj, rfl⟩ : ∃ wj : World, wj = wr := ⟨_, rfl⟩
              by_cases hjl : j < ns.length
              · go_wp2
                go_loopw [9] (fun q wq => ∃ q' : Nat, 1 ≤ q' ∧ q' ≤ 13 ∧ q = .int .i64 q' ∧ Below W.heap.size W wq ∧ Miss t ns i j q') (fun q _ => 13 - (intOf q).toNat)
                case atStart => exact ⟨1, by omega, by omega, rfl, hbj, HMJ.out⟩
                case round =>
                  obtain ⟨q, hq1, hq, rfl, hbq, hmq⟩ := hrel
                  have HMQ := Lib.hid hmq
                  clear hmq
                  by_cases hq12 : q ≤ 12
                  · obtain ⟨ci, hgl⟩ := row_cell HR.out rfl hbq hil
                    obtain ⟨cj, _⟩ := row_cell HR.out rfl hbq hjl
                    have hzi := names_at HSZ.out i
                    have hzj := names_at HSZ.out j
                    have hgn : ¬ g = wr.heap.size := by omega
                    generalize hni : ns.getD i ⟨#[]⟩ = si at *
                    generalize hnj : ns.getD j ⟨#[]⟩ = sj at *
                    have Hni := Lib.hid hni
                    have Hnj := Lib.hid hnj
                    clear hni hnj
                    have hB3 : Below W.heap.size W ((wr.alloc (.cells #[.int .i64 (q : Int), .string si, .string sj] 83)).drew) := (hbq.alloc hbq.size _).drew
                    cases he : t.toList.isEmpty with
                    | true =>
                      have he2 : (!t.toList.isEmpty) = false := by rw [he]; rfl
                      have HMQ2 := Lib.hid (miss_k HMQ.out (fun hh => by rw [Hit, he] at hh; cases hh.1))
                      go_wp2
                      go_region
                      go_wp2
                      go_roundw
                      case rel => exact ⟨q + 1, by omega, by omega, by go_num, hB3, HMQ2.out⟩
                      case measure => simp [intOf]; omega
                    | false =>
                      have he2 : (!t.toList.isEmpty) = true := by rw [he]; rfl
                      cases htx : (textS q si sj).toList == t.toList with
                      | true =>
                        have hst : textS q si sj = t := bytes_ext (by simpa [ByteArray.toList_eq] using htx)
                        have HPV := Lib.hid (hit_value ⟨he, hst⟩)
                        have HST := Lib.hid hst
                        have hself : (t.toList == t.toList) = true := by simp
                        clear htx hst
                        go_wp2
                        go_region
                        go_wp2_with fail
                        refine (specStmtText q si sj _ (by unfold maxLen; omega) (by unfold maxLen; omega)).mono ?_
                        rw [HST.out]
                        rintro e w2 ⟨rfl, hb2⟩
                        have hB5 : Below w.heap.size w w2 := hBw.trans ((hB3.trans (hb2.mono hB3.size)).mono hBw.size)
                        obtain ⟨hc2, hf2⟩ := bcell hb2
                        have hz2 : wr.heap.size < w2.heap.size := by have h := hb2.size; simp at h; omega
                        have hz3 : w.heap.size < wr.heap.size := by have h1 := hbw1; have h2 := hbq.size; omega
                        have hz4 : w.heap.size < wr.heap.size + 1 := by omega
                        have hz5 : w.heap.size < w2.heap.size := by omega
                        have hn5 : ¬ w.heap.size = wr.heap.size := by omega
                        have hblk : wr.heap[w.heap.size]? = some (.cells #[.int .i64 0, .string ⟨#[]⟩, .string ⟨#[]⟩] 83 (0, 0)) := (hbq.block w.heap.size hbw1).trans HBLK.out
                        have rc0 : wr.cell? ⟨w.heap.size, 0, none⟩ = some (.int .i64 0) := cell_of_row wr w.heap.size 0 _ _ (0, 0) hblk
                        have rf0 : wr.frozen? ⟨w.heap.size, 0, none⟩ = false := frozen_of_row wr w.heap.size 0 _ _ hblk
                        have rc1 : wr.cell? ⟨w.heap.size, 1, none⟩ = some (.string ⟨#[]⟩) := cell_of_row wr w.heap.size 1 _ _ (0, 0) hblk
                        have rf1 : wr.frozen? ⟨w.heap.size, 1, none⟩ = false := frozen_of_row wr w.heap.size 1 _ _ hblk
                        have rc2 : wr.cell? ⟨w.heap.size, 2, none⟩ = some (.string ⟨#[]⟩) := cell_of_row wr w.heap.size 2 _ _ (0, 0) hblk
                        have rf2 : wr.frozen? ⟨w.heap.size, 2, none⟩ = false := frozen_of_row wr w.heap.size 2 _ _ hblk
                        clear hblk
                        go_wp2
                        refine bodyPost_ret (v := .tuple #[stV (q : Int) si sj, .bool true]) (by simp [results, Tryz.results160, go_sem, hc2, hz3, hz4, rc0, rc1, rc2]) rfl ⟨by rw [HPV.out], ?_⟩
                        repeat (first | exact hB5 | refine Below.setCell ?_ (by simp <;> omega) _)
                      | false =>
                        have HMQ2 := Lib.hid (miss_k HMQ.out (fun hh => by rw [Hit, Hni.out, Hnj.out] at hh; rw [hh.2] at htx; simp at htx))
                        generalize hst : textS q si sj = tx at *
                        have HST := Lib.hid hst
                        clear hst
                        go_wp2
                        go_region
                        go_wp2_with fail
                        refine (specStmtText q si sj _ (by unfold maxLen; omega) (by unfold maxLen; omega)).mono ?_
                        rw [HST.out]
                        rintro e w2 ⟨rfl, hb2⟩
                        have hB5 : Below W.heap.size W w2 := hB3.trans (hb2.mono hB3.size)
                        go_wp2
                        go_roundw
                        case rel => exact ⟨q + 1, by omega, by omega, by go_num, hB5, HMQ2.out⟩
                        case measure => simp [intOf]; omega
                  · have hq13 : q = 13 := by omega
                    subst hq13
                    have HMJ2 := Lib.hid (miss_j HMQ.out)
                    go_wp2
                    go_roundw
                    case rel => exact ⟨j + 1, by omega, by go_num, hbq, HMJ2.out⟩
                    case measure => simp [intOf]; omega
              · have hje : j = ns.length := by omega
                have HMI2 := Lib.hid (miss_i (hje ▸ HMJ.out))
                clear hje
                go_wp2
                go_roundw
                case rel => exact ⟨i + 1, by omega, by go_num, hbj, HMI2.out⟩
                case measure => simp [intOf]; omega
          · have hie : i = ns.length := by omega
            have HPV := Lib.hid (miss_value (HME.out (hie ▸ HMI.out)))
            clear hie
            have hblk : wi.heap[w.heap.size]? = some (.cells #[.int .i64 0, .string ⟨#[]⟩, .string ⟨#[]⟩] 83 (0, 0)) := (hbi.block w.heap.size hbw1).trans HBLK.out
            have rc0 : wi.cell? ⟨w.heap.size, 0, none⟩ = some (.int .i64 0) := cell_of_row wi w.heap.size 0 _ _ (0, 0) hblk
            have rf0 : wi.frozen? ⟨w.heap.size, 0, none⟩ = false := frozen_of_row wi w.heap.size 0 _ _ hblk
            have rc1 : wi.cell? ⟨w.heap.size, 1, none⟩ = some (.string ⟨#[]⟩) := cell_of_row wi w.heap.size 1 _ _ (0, 0) hblk
            have rf1 : wi.frozen? ⟨w.heap.size, 1, none⟩ = false := frozen_of_row wi w.heap.size 1 _ _ hblk
            have rc2 : wi.cell? ⟨w.heap.size, 2, none⟩ = some (.string ⟨#[]⟩) := cell_of_row wi w.heap.size 2 _ _ (0, 0) hblk
            have rf2 : wi.frozen? ⟨w.heap.size, 2, none⟩ = false := frozen_of_row wi w.heap.size 2 _ _ hblk
            clear hblk
            have hBf := hBw.trans (hbi.mono hBw.size)
            have hz3 : w.heap.size < wi.heap.size := Nat.lt_of_lt_of_le hbw1 hbi.size
            go_wp2
            refine bodyPost_ret (v := .tuple #[stV 0 ⟨#[]⟩ ⟨#[]⟩, .bool false]) (by simp [results, Tryz.results160, go_sem, rc0, rc1, rc2]) rfl ⟨by rw [HPV.out], ?_⟩
            repeat (first | exact hBf | refine Below.setCell ?_ (by simp <;> omega) _)
end Go.Proofs.YtpmmjaceehlpiaaGreatDoor
/-
  How a program is read from a list of bytes, piece by piece; that what is read rightly is the text, and that a program's text is read back. Nothing here knows of the program's own text.
  A program's text is read back as the program: the pieces of its text, by the reader and by cutting; there is no other program with that text. Nothing here knows of the program's own text.
-/
namespace Go.Proofs.YtpmmjaceehlpiaaGreatDoor
open Go Go.RowKit

/-- What stands before the first c. -/
def pieceL (c : UInt8) (l : List UInt8) : List UInt8 := l.takeWhile (· != c)
theorem piece_clean (c : UInt8) (l : List UInt8) : ∀ x ∈ pieceL c l, x ≠ c := by
  induction l with
  | nil => intro x hx; simp [pieceL] at hx
  | cons y r ih =>
    intro x hx
    unfold pieceL at hx
    rw [List.takeWhile_cons] at hx
    split at hx
    · rename_i hy
      rcases List.mem_cons.1 hx with rfl | h
      · simpa using hy
      · exact ih x h
    · simp at hx
theorem piece_parts (c : UInt8) : ∀ l : List UInt8, l = pieceL c l ∨ ∃ r, l = pieceL c l ++ c :: r
  | [] => .inl rfl
  | y :: l => by
    by_cases hy : y = c
    · subst hy
      exact .inr ⟨l, by simp [pieceL]⟩
    · have hp : pieceL c (y :: l) = y :: pieceL c l := by
        unfold pieceL
        rw [List.takeWhile_cons, if_pos (by simpa using hy)]
      rw [hp]
      rcases piece_parts c l with h | ⟨r, h⟩
      · exact .inl (by rw [← h])
      · exact .inr ⟨r, by rw [List.cons_append, ← h]⟩
theorem piece_hit (c : UInt8) : ∀ (f r : List UInt8), (∀ x ∈ f, x ≠ c) → pieceL c (f ++ c :: r) = f
  | [], r, _ => by simp [pieceL]
  | y :: f, r, h => by
    have ih := piece_hit c f r fun x hx => h x (by simp [hx])
    unfold pieceL at ih ⊢
    rw [List.cons_append, List.takeWhile_cons, if_pos (by simpa using h y (by simp)), ih]
theorem piece_all (c : UInt8) : ∀ (f : List UInt8), (∀ x ∈ f, x ≠ c) → pieceL c f = f
  | [], _ => rfl
  | y :: f, h => by
    have ih := piece_all c f fun x hx => h x (by simp [hx])
    unfold pieceL at ih ⊢
    rw [List.takeWhile_cons, if_pos (by simpa using h y (by simp)), ih]
theorem piece_length (c : UInt8) (l : List UInt8) : (pieceL c l).length ≤ l.length := by
  rcases piece_parts c l with h | ⟨r, h⟩
  · rw [← h]; exact Nat.le_refl _
  · have := congrArg List.length h
    simp at this
    omega
theorem index_of_parts (c : UInt8) (f r : List UInt8) (h : ∀ x ∈ f, x ≠ c) : Lib.indexByte (f ++ c :: r) c = f.length := by
  have hg := Lib.indexByte_ge (f ++ c :: r) c
  by_cases hm : Lib.indexByte (f ++ c :: r) c = -1
  · exact absurd (by simp) (Lib.indexByte_none hm f.length)
  · obtain ⟨o, ho⟩ : ∃ o : Nat, Lib.indexByte (f ++ c :: r) c = o := ⟨(Lib.indexByte (f ++ c :: r) c).toNat, by omega⟩
    obtain ⟨h1, h2⟩ := Lib.indexByte_some ho
    rw [ho]
    congr 1
    rcases Nat.lt_trichotomy o f.length with hlt | heq | hgt
    · rw [List.getElem?_append_left hlt] at h1
      exact absurd rfl (h c (List.mem_of_getElem? h1))
    · exact heq
    · exact absurd (by simp) (h2 f.length hgt)
theorem cut_piece (c : UInt8) (l : List UInt8) : (Lib.cut l [c]).1 = pieceL c l := by
  unfold Lib.cut
  rw [Lib.index_one]
  rcases piece_parts c l with h | ⟨r, h⟩
  · have hn : ¬ 0 ≤ Lib.indexByte l c := by
      intro h0
      obtain ⟨o, ho⟩ : ∃ o : Nat, Lib.indexByte l c = o := ⟨(Lib.indexByte l c).toNat, by omega⟩
      obtain ⟨h1, _⟩ := Lib.indexByte_some ho
      have hm := List.mem_of_getElem? h1
      rw [h] at hm
      exact piece_clean c l c hm rfl
    rw [if_neg hn]
    exact h
  · have hi := index_of_parts c (pieceL c l) r (piece_clean c l)
    rw [← h] at hi
    rw [hi, if_pos (by omega)]
    show l.take (pieceL c l).length = _
    have e : l.take (pieceL c l).length = (pieceL c l ++ c :: r).take (pieceL c l).length := congrArg (List.take (pieceL c l).length) h
    rw [e, List.take_left]

/-- The piece from a place on, and the place behind it. -/
def pc (c : UInt8) (t : List UInt8) (at_ : Nat) : List UInt8 := pieceL c (t.drop at_)
def nx (c : UInt8) (t : List UInt8) (at_ : Nat) : Nat := at_ + (pc c t at_).length + 1
theorem pc_over {c : UInt8} {t : List UInt8} {n : Nat} (h : t.length ≤ n) : pc c t n = [] := by
  rw [pc, List.drop_eq_nil_of_le h]
  rfl
theorem pc_length (c : UInt8) (t : List UInt8) (n : Nat) : (pc c t n).length ≤ t.length := by
  have := piece_length c (t.drop n)
  rw [List.length_drop] at this
  unfold pc
  omega

/-- L has been read; a c may stand behind it. -/
def Cons (c : UInt8) (t L : List UInt8) (n : Nat) : Prop := n = L.length + 1 ∧ (t = L ∨ ∃ r, t = L ++ c :: r)
theorem cons_step {c d : UInt8} {t L : List UInt8} {n : Nat} (h : Cons c t L n) (hn : n ≤ t.length) : Cons d t (L ++ c :: pc d t n) (nx d t n) := by
  obtain ⟨rfl, h⟩ := h
  rcases h with h | ⟨r, h⟩
  · rw [h] at hn
    omega
  · have hd : t.drop (L.length + 1) = r := by
      rw [h, List.drop_append]
      simp
    have hp : pc d t (L.length + 1) = pieceL d r := by rw [pc, hd]
    refine ⟨by simp [nx]; omega, ?_⟩
    rw [hp]
    rcases piece_parts d r with h2 | ⟨r2, h2⟩
    · exact .inl (by rw [← h2]; exact h)
    · exact .inr ⟨r2, by rw [List.append_assoc, List.cons_append, ← h2]; exact h⟩
theorem cons_first (d : UInt8) (t : List UInt8) : Cons d t (pc d t 0) (nx d t 0) := by
  refine ⟨by simp [nx], ?_⟩
  have hp : pc d t 0 = pieceL d t := by simp [pc]
  rw [hp]
  exact piece_parts d t

def numV (l : List UInt8) : Int := if numN 0 999999 l = true then valOf l else 0
theorem num_nil : numN 0 999999 [] = false := by rfl
theorem num_text {l : List UInt8} (h : numN 0 999999 l = true) : Lib.itoa (numV l) = l := by
  rw [numV, if_pos h]
  exact (atoi_num h).2.2.2

def kOf (l : List UInt8) : Int := if parsesS (mkS l) = true then guessK (mkS l) else 0
def aOf (l : List UInt8) : ByteArray := if parsesS (mkS l) = true then guessA (mkS l) else ⟨#[]⟩
def bOf (l : List UInt8) : ByteArray := if parsesS (mkS l) = true then guessB (mkS l) else ⟨#[]⟩
theorem stmt_text {l : List UInt8} (h : parsesS (mkS l) = true) : (textS (kOf l) (aOf l) (bOf l)).data.toList = l := by
  rw [kOf, aOf, bOf, if_pos h, if_pos h, if_pos h, (parsesS_text h).2]
  rfl

def edAt (t : List UInt8) (n : Nat) : Ed := ⟨numV (pc 32 t n), numV (pc 32 t (nx 32 t n)), kOf (pc 59 t (nx 32 t (nx 32 t n))), aOf (pc 59 t (nx 32 t (nx 32 t n))), bOf (pc 59 t (nx 32 t (nx 32 t n)))⟩
def edNext (t : List UInt8) (n : Nat) : Nat := nx 59 t (nx 32 t (nx 32 t n))
def edGood (t : List UInt8) (n : Nat) : Bool := numN 0 999999 (pc 32 t n) && numN 0 999999 (pc 32 t (nx 32 t n)) && parsesS (mkS (pc 59 t (nx 32 t (nx 32 t n))))
theorem edge_sound {t L : List UInt8} {n : Nat} (h : Cons 59 t L n) (hn : n ≤ t.length) (hg : edGood t n = true) : Cons 59 t (L ++ 59 :: edL (edAt t n)) (edNext t n) := by
  simp only [edGood, Bool.and_eq_true] at hg
  obtain ⟨⟨g1, g2⟩, g3⟩ := hg
  have c1 := cons_step (d := 32) h hn
  have n1 : nx 32 t n ≤ t.length := by
    rcases Nat.lt_or_ge t.length (nx 32 t n) with hh | hh
    · rw [pc_over (by omega), num_nil] at g2
      cases g2
    · exact hh
  have c2 := cons_step (d := 32) c1 n1
  have n2 : nx 32 t (nx 32 t n) ≤ t.length := by
    rcases Nat.lt_or_ge t.length (nx 32 t (nx 32 t n)) with hh | hh
    · rw [pc_over (by omega)] at g3
      have := parsesS_empty
      rw [show mkS [] = ⟨#[]⟩ from rfl, this] at g3
      cases g3
    · exact hh
  have c3 := cons_step (d := 59) c2 n2
  have e : L ++ 59 :: edL (edAt t n) = L ++ 59 :: pc 32 t n ++ 32 :: pc 32 t (nx 32 t n) ++ 32 :: pc 59 t (nx 32 t (nx 32 t n)) := by
    simp only [edL, edAt, num_text g1, num_text g2, stmt_text g3, List.append_assoc, List.cons_append]
  rw [e]
  exact c3

/-- The state behind k edges: the place, whether all was right, the edges. -/
def stR (t : List UInt8) (a0 : Nat) (g0 : Bool) : Nat → Nat × Bool × List Ed
  | 0 => (a0, g0, [])
  | k + 1 => (edNext t (stR t a0 g0 k).1, (stR t a0 g0 k).2.1 && edGood t (stR t a0 g0 k).1, (stR t a0 g0 k).2.2 ++ [edAt t (stR t a0 g0 k).1])
theorem stR_length (t : List UInt8) (a0 : Nat) (g0 : Bool) : ∀ k, (stR t a0 g0 k).2.2.length = k
  | 0 => rfl
  | k + 1 => by rw [stR, List.length_append, stR_length t a0 g0 k]; rfl

def varsL (t : List UInt8) : List ByteArray := pieces 32 (mkS (pc 59 t 0))
def ptsF (t : List UInt8) : List UInt8 := pc 59 t (nx 59 t 0)
def at0 (t : List UInt8) : Nat := nx 59 t (nx 59 t 0)
def st (t : List UInt8) (k : Nat) : Nat × Bool × List Ed := stR t (at0 t) (numN 0 999999 (ptsF t)) k
def contR (t : List UInt8) (k : Nat) : Bool := (st t k).2.1 && decide ((st t k).1 ≤ t.length) && decide (k ≤ 24)

theorem read_sound (t : List UInt8) : ∀ k, (∀ j, j < k → contR t j = true) → (st t k).2.1 = true → Cons 59 t (progL (varsL t) (numV (ptsF t)) (st t k).2.2) (st t k).1
  | 0, _, hg => by
    have hg' : numN 0 999999 (ptsF t) = true := hg
    have c0 := cons_first 59 t
    have n0 : nx 59 t 0 ≤ t.length := by
      rcases Nat.lt_or_ge t.length (nx 59 t 0) with hh | hh
      · rw [ptsF, pc_over (by omega), num_nil] at hg'
        cases hg'
      · exact hh
    have c1 := cons_step (d := 59) c0 n0
    have e : progL (varsL t) (numV (ptsF t)) (st t 0).2.2 = pc 59 t 0 ++ 59 :: pc 59 t (nx 59 t 0) := by
      show progL (varsL t) (numV (ptsF t)) [] = _
      rw [progL, varsL, jn_pieces, num_text hg', mkS_toList]
      simp [ptsF]
    rw [e]
    exact c1
  | k + 1, hc, hg => by
    have hg' : ((st t k).2.1 && edGood t (st t k).1) = true := hg
    simp only [Bool.and_eq_true] at hg'
    have ih := read_sound t k (fun j hj => hc j (by omega)) hg'.1
    have hck := hc k (by omega)
    simp only [contR, Bool.and_eq_true, decide_eq_true_eq] at hck
    have hs := edge_sound ih hck.1.2 hg'.2
    have e : progL (varsL t) (numV (ptsF t)) (st t (k + 1)).2.2 = progL (varsL t) (numV (ptsF t)) (st t k).2.2 ++ 59 :: edL (edAt t (st t k).1) := by
      show progL _ _ ((st t k).2.2 ++ [edAt t (st t k).1]) = _
      simp [progL]
    rw [e]
    exact hs
end Go.Proofs.YtpmmjaceehlpiaaGreatDoor

namespace Go.Proofs.YtpmmjaceehlpiaaGreatDoor
open Go Go.RowKit

theorem not_mem {c : UInt8} {l : List UInt8} (h : c ∉ l) : ∀ x ∈ l, x ≠ c := fun x hx e => h (e ▸ hx)
theorem itoa_clean {n : Int} (h : 0 ≤ n) {c : UInt8} (hc : isDig c = false) : c ∉ Lib.itoa n := by
  obtain ⟨u, rfl⟩ : ∃ u : Nat, n = u := ⟨n.toNat, by omega⟩
  rw [itoa_nat]
  intro hm
  have := List.all_eq_true.1 (dec_all u) c hm
  rw [hc] at this
  cases this
theorem num_itoa_yes {n : Int} (h0 : 0 ≤ n) (h1 : n ≤ 999999) : numN 0 999999 (Lib.itoa n) = true ∧ numV (Lib.itoa n) = n := by
  have h := num_atoi (lo := 0) (hi := 999999) (by omega) (by omega) h0 h1 rfl
  exact ⟨h, by rw [numV, if_pos h, (val_itoa n).1]⟩
theorem name_clean {s : ByteArray} (h : goodName s = true) {c : UInt8} (hc : small c = false) : c ∉ s.data.toList := by
  rw [goodName_list] at h
  intro hm
  match hl : s.data.toList, h, hm with
  | [x], h, hm =>
    have e : c = x := by simpa using hm
    subst e
    simp only [nameL] at h
    rw [hc] at h
    cases h
  | [x, y], h, hm =>
    simp only [nameL, Bool.and_eq_true] at h
    rcases (show c = x ∨ c = y by simpa using hm) with e | e
    · subst e
      rw [hc] at h
      cases h.1
    · subst e
      rw [hc] at h
      cases h.2
theorem placeFrom_mem (s : ByteArray) : ∀ (xs : List ByteArray) (k : Nat), 0 ≤ placeFrom s k xs → s ∈ xs
  | [], k, h => by simp [placeFrom] at h
  | x :: xs, k, h => by
    unfold placeFrom at h
    split at h
    · rename_i he
      have : x = s := by
        apply bytes_ext
        rw [← ByteArray.toList_eq, ← ByteArray.toList_eq]
        simpa using he
      simp [this]
    · exact List.mem_cons_of_mem _ (placeFrom_mem s xs (k + 1) h)
theorem vars_name {ss : List ByteArray} (h : goodVars ss = true) {s : ByteArray} (hs : s ∈ ss) : goodName s = true := by
  obtain ⟨k, hk, rfl⟩ := List.mem_iff_getElem.1 hs
  exact (vars_at h hk).1
theorem operand_can {ss : List ByteArray} (hg : goodVars ss = true) {s : ByteArray} {u : Bool} (h : operandB ss s u = true) : canS s u = true := by
  cases u
  · simpa [operandB, canS] using h
  · simp only [operandB, if_true, decide_eq_true_eq] at h
    simp only [canS, if_true]
    exact vars_name hg (placeFrom_mem s ss 0 h)
theorem can_clean {s : ByteArray} {u : Bool} (h : canS s u = true) {c : UInt8} (hc : small c = false) : c ∉ s.data.toList := by
  cases u
  · have : s.data.toList = [] := by simpa [canS, ByteArray.toList_eq] using h
    rw [this]
    simp
  · exact name_clean (by simpa [canS] using h) hc
theorem body_clean {k : Int} (hk : 1 ≤ k ∧ k ≤ 12) {a b : List UInt8} (ha : (59 : UInt8) ∉ a) (hb : (59 : UInt8) ∉ b) : (59 : UInt8) ∉ bodyL k a b ∧ bodyL k a b ≠ [] := by
  rcases kinds hk with rfl | rfl | rfl | rfl | rfl | rfl | rfl | rfl | rfl | rfl | rfl | rfl
  all_goals simp [bodyL, ha, hb]

/-- A statement's text over good variables: clean, and parsed back. -/
theorem stmt_back {ss : List ByteArray} {k : Int} {a b : ByteArray} (h : stmtB ss k a b = true) : (59 : UInt8) ∉ (textS k a b).data.toList ∧ parsesS (textS k a b) = true ∧ kOf (textS k a b).data.toList = k ∧ aOf (textS k a b).data.toList = a ∧ bOf (textS k a b).data.toList = b := by
  simp only [stmtB, Bool.and_eq_true, decide_eq_true_eq] at h
  obtain ⟨⟨⟨hg, hn⟩, h1⟩, h2⟩ := h
  have c1 := operand_can hg h1
  have c2 := operand_can hg h2
  have hk : 1 ≤ k ∧ k ≤ 12 := by
    rcases Classical.em (1 ≤ k ∧ k ≤ 12) with hk | hk
    · exact hk
    · rw [namesN_none hk] at hn
      omega
  have hT : (textS k a b).data.toList = bodyL k a.data.toList b.data.toList := by
    rw [canS_list] at c1 c2
    rw [textS_data, textL, if_pos (by simp [okL, c1, c2])]
  have hb := body_clean hk (can_clean c1 (c := 59) (by decide)) (can_clean c2 (c := 59) (by decide))
  have hne : textS k a b ≠ ⟨#[]⟩ := fun e => hb.2 (by rw [← hT, e])
  obtain ⟨p0, p1, p2, p3⟩ := parsesS_of rfl hne
  refine ⟨by rw [hT]; exact hb.1, p0, ?_, ?_, ?_⟩
  · rw [kOf, mkS_list, if_pos p0, p1]
  · rw [aOf, mkS_list, if_pos p0, p2]
  · rw [bOf, mkS_list, if_pos p0, p3]

theorem piece_here {c d : UInt8} {t L f tail : List UInt8} (h : t = L ++ c :: (f ++ tail)) (ht : tail = [] ∨ ∃ r, tail = d :: r) (hf : d ∉ f) : pc d t (L.length + 1) = f ∧ nx d t (L.length + 1) = (L ++ c :: f).length + 1 := by
  have hd : t.drop (L.length + 1) = f ++ tail := by rw [h, List.drop_append]; simp
  have hp : pc d t (L.length + 1) = f := by
    rw [pc, hd]
    rcases ht with rfl | ⟨r, rfl⟩
    · rw [List.append_nil, piece_all d f (not_mem hf)]
    · rw [piece_hit d f r (not_mem hf)]
  exact ⟨hp, by rw [nx, hp]; simp; omega⟩
theorem piece_start {d : UInt8} {t f tail : List UInt8} (h : t = f ++ tail) (ht : tail = [] ∨ ∃ r, tail = d :: r) (hf : d ∉ f) : pc d t 0 = f ∧ nx d t 0 = f.length + 1 := by
  have hp : pc d t 0 = f := by
    rw [pc, List.drop_zero, h]
    rcases ht with rfl | ⟨r, rfl⟩
    · rw [List.append_nil, piece_all d f (not_mem hf)]
    · rw [piece_hit d f r (not_mem hf)]
  exact ⟨hp, by rw [nx, hp]; omega⟩
theorem cut_join (c : UInt8) : ∀ (ls : List (List UInt8)) (l : List UInt8), (∀ x ∈ l :: ls, c ∉ x) → cut c (Lib.join (l :: ls) [c]) = l :: ls
  | [], l, h => by
    rw [Lib.join_one]
    exact cut_none c l (not_mem (h l (by simp)))
  | m :: ls, l, h => by
    have ih := cut_join c ls m fun x hx => h x (by simp at hx ⊢; rcases hx with hx | hx <;> simp [hx])
    have e : Lib.join (l :: m :: ls) [c] = l ++ c :: Lib.join (m :: ls) [c] := by
      rw [join_flat, join_flat]
      simp
    rw [e, cut_hit c l _ (not_mem (h l (by simp))), ih]

/-- t is the text of a program that is right. -/
def ValidT (t : List UInt8) (ss : List ByteArray) (p : Int) (es : List Ed) : Prop := progB ss p es = true ∧ t = progL ss p es
theorem prog_parts {ss : List ByteArray} {p : Int} {es : List Ed} (h : progB ss p es = true) : goodVars ss = true ∧ (1 ≤ p ∧ p ≤ 12) ∧ es.length ≤ 24 ∧ ∀ x ∈ es, (0 ≤ x.f ∧ x.f < p) ∧ (0 ≤ x.t ∧ x.t < p) ∧ stmtB ss x.k x.a x.b = true := by
  simp only [progB, Bool.and_eq_true, decide_eq_true_eq, List.all_eq_true] at h
  obtain ⟨⟨⟨⟨h1, h2⟩, h3⟩, h4⟩, h5⟩ := h
  refine ⟨h1, ⟨h2, h3⟩, h4, fun x hx => ?_⟩
  have := h5 x hx
  simp only [edB, pointB, Bool.and_eq_true, decide_eq_true_eq] at this
  exact ⟨this.1.1, this.1.2, this.2⟩
theorem vars_clean {ss : List ByteArray} (h : goodVars ss = true) {c : UInt8} (hc : small c = false) : ∀ x ∈ ss.map (·.data.toList), c ∉ x := by
  intro x hx
  obtain ⟨s, hs, rfl⟩ := List.mem_map.1 hx
  exact name_clean (vars_name h hs) hc
theorem vars_ne {ss : List ByteArray} (h : goodVars ss = true) : ∃ s r, ss = s :: r := by
  have h1 := (of_decide_eq_true h).2
  match ss, h1 with
  | s :: r, _ => exact ⟨s, r, rfl⟩
theorem vars_cut {ss : List ByteArray} (h : goodVars ss = true) : pieces 32 (mkS (jn ss ⟨#[32]⟩)) = ss := by
  obtain ⟨s, r, rfl⟩ := vars_ne h
  have hc := vars_clean h (c := 32) (by decide)
  rw [List.map_cons] at hc
  rw [pieces, mkS_toList, jn, List.map_cons, show (⟨#[32]⟩ : ByteArray).data.toList = [32] from rfl, cut_join 32 _ _ hc, List.map_cons, List.map_map]
  show mkS s.data.toList :: r.map (mkS ∘ fun x => x.data.toList) = s :: r
  congr 1
  conv => rhs; rw [← List.map_id r]
  rfl
theorem jn_no59 {ss : List ByteArray} (h : goodVars ss = true) : (59 : UInt8) ∉ jn ss ⟨#[32]⟩ := by
  obtain ⟨s, r, rfl⟩ := vars_ne h
  have hc := vars_clean h (c := 59) (by decide)
  rw [jn, List.map_cons, join_flat]
  intro hm
  rcases List.mem_append.1 hm with hm | hm
  · exact hc _ (by simp) hm
  · obtain ⟨x, hx, hxm⟩ := List.mem_flatMap.1 hm
    rcases List.mem_append.1 hxm with hq | hq
    · rw [show (⟨#[32]⟩ : ByteArray).data.toList = [32] from rfl] at hq
      simp at hq
    · exact hc x (by rw [List.map_cons]; exact List.mem_cons_of_mem _ hx) hq
theorem flat_tail (es : List Ed) : (es.flatMap fun x => 59 :: edL x) = [] ∨ ∃ r, (es.flatMap fun x => 59 :: edL x) = 59 :: r := by
  cases es with
  | nil => exact .inl rfl
  | cons x r => exact .inr ⟨_, rfl⟩
theorem progL_split (ss : List ByteArray) (p : Int) (es : List Ed) (k : Nat) : progL ss p es = progL ss p (es.take k) ++ (es.drop k).flatMap fun x => 59 :: edL x := by
  have e : (es.flatMap fun x => 59 :: edL x) = ((es.take k).flatMap fun x => 59 :: edL x) ++ (es.drop k).flatMap fun x => 59 :: edL x := by
    rw [← List.flatMap_append, List.take_append_drop]
  unfold progL
  rw [e]
  simp only [List.append_assoc, List.cons_append]

theorem edge_back {ss : List ByteArray} {p : Int} {x : Ed} {t L tail : List UInt8} (hp : p ≤ 12) (hx : (0 ≤ x.f ∧ x.f < p) ∧ (0 ≤ x.t ∧ x.t < p) ∧ stmtB ss x.k x.a x.b = true) (h : t = L ++ 59 :: (edL x ++ tail)) (ht : tail = [] ∨ ∃ r, tail = 59 :: r) :
    edAt t (L.length + 1) = x ∧ edGood t (L.length + 1) = true ∧ edNext t (L.length + 1) = (L ++ 59 :: edL x).length + 1 := by
  obtain ⟨⟨f0, f1⟩, ⟨t0, t1⟩, hs⟩ := hx
  obtain ⟨s0, s1, s2, s3, s4⟩ := stmt_back hs
  have e1 := piece_here (L := L) (c := 59) (t := t) (d := 32) (f := Lib.itoa x.f) (tail := 32 :: (Lib.itoa x.t ++ 32 :: ((textS x.k x.a x.b).data.toList ++ tail))) (by rw [h, edL]; simp only [List.append_assoc, List.cons_append]) (.inr ⟨_, rfl⟩) (itoa_clean f0 (by decide))
  have e2 := piece_here (L := L ++ 59 :: Lib.itoa x.f) (c := 32) (d := 32) (t := t) (f := Lib.itoa x.t) (tail := 32 :: ((textS x.k x.a x.b).data.toList ++ tail)) (by rw [h, edL]; simp only [List.append_assoc, List.cons_append]) (.inr ⟨_, rfl⟩) (itoa_clean t0 (by decide))
  have e3 := piece_here (L := L ++ 59 :: Lib.itoa x.f ++ 32 :: Lib.itoa x.t) (c := 32) (d := 59) (t := t) (f := (textS x.k x.a x.b).data.toList) (tail := tail) (by rw [h, edL]; simp only [List.append_assoc, List.cons_append]) ht s0
  rw [← e1.2] at e2
  rw [← e2.2] at e3
  have n1 := num_itoa_yes f0 (by omega)
  have n2 := num_itoa_yes t0 (by omega)
  refine ⟨?_, ?_, ?_⟩
  · rw [edAt, e1.1, e2.1, e3.1, n1.2, n2.2, s2, s3, s4]
  · rw [edGood, e1.1, e2.1, e3.1, n1.1, n2.1, mkS_list, s1]
    rfl
  · rw [edNext, e3.2, edL]
    simp only [List.append_assoc, List.cons_append]

theorem read_back {t : List UInt8} {ss : List ByteArray} {p : Int} {es : List Ed} (h : ValidT t ss p es) : varsL t = ss ∧ numV (ptsF t) = p ∧ ∀ k, k ≤ es.length → st t k = ((progL ss p (es.take k)).length + 1, true, es.take k) := by
  obtain ⟨hB, ht⟩ := h
  obtain ⟨hg, ⟨p0, p1⟩, _, hes⟩ := prog_parts hB
  have v := piece_start (d := 59) (t := t) (f := jn ss ⟨#[32]⟩) (by rw [ht, progL]) (.inr ⟨_, rfl⟩) (jn_no59 hg)
  have q := piece_here (c := 59) (d := 59) (t := t) (L := jn ss ⟨#[32]⟩) (f := Lib.itoa p) (by rw [ht, progL]) (flat_tail es) (itoa_clean (by omega) (by decide))
  have n := num_itoa_yes (n := p) (by omega) (by omega)
  have hpf : ptsF t = Lib.itoa p := by rw [ptsF, v.2, q.1]
  have ha : at0 t = (progL ss p []).length + 1 := by
    rw [at0, v.2, q.2]
    simp [progL]
  refine ⟨by rw [varsL, v.1, vars_cut hg], by rw [hpf, n.2], ?_⟩
  intro k
  induction k with
  | zero =>
    intro _
    show (at0 t, numN 0 999999 (ptsF t), []) = _
    rw [ha, hpf, n.1]
    rfl
  | succ k ih =>
    intro hk
    have ih := ih (by omega)
    have hlt : k < es.length := by omega
    have hx := hes es[k] (List.getElem_mem hlt)
    have hd : (es.drop k).flatMap (fun x => 59 :: edL x) = 59 :: (edL es[k] ++ (es.drop (k + 1)).flatMap fun x => 59 :: edL x) := by
      rw [List.drop_eq_getElem_cons hlt]
      rfl
    have e := edge_back (L := progL ss p (es.take k)) (t := t) (tail := (es.drop (k + 1)).flatMap fun x => 59 :: edL x) p1 hx (by rw [ht, progL_split ss p es k, hd]) (flat_tail _)
    show (edNext t (st t k).1, (st t k).2.1 && edGood t (st t k).1, (st t k).2.2 ++ [edAt t (st t k).1]) = _
    rw [ih]
    simp only
    rw [e.1, e.2.1, e.2.2, ← progL_next ss p es k hlt, ← take_next es k hlt]
    rfl

theorem valid_one {t : List UInt8} {ss ss' : List ByteArray} {p p' : Int} {es es' : List Ed} (h : ValidT t ss p es) (h' : ValidT t ss' p' es') : ss = ss' ∧ p = p' ∧ es = es' := by
  obtain ⟨a1, a2, a3⟩ := read_back h
  obtain ⟨b1, b2, b3⟩ := read_back h'
  refine ⟨a1.symm.trans b1, a2.symm.trans b2, ?_⟩
  rcases Nat.le_total es.length es'.length with hl | hl
  · have x := a3 es.length (Nat.le_refl _)
    rw [b3 es.length hl, List.take_length] at x
    simp only [Prod.mk.injEq, true_and] at x
    have hlen : (progL ss' p' (es'.take es.length)).length = (progL ss p es).length := by omega
    rw [← h.2, h'.2, progL_split ss' p' es' es.length, List.length_append] at hlen
    have h0 : ((es'.drop es.length).flatMap fun x => 59 :: edL x) = [] := List.eq_nil_of_length_eq_zero (by omega)
    have hd : es'.drop es.length = [] := by
      match hq : es'.drop es.length with
      | [] => rfl
      | y :: r => rw [hq] at h0; simp at h0
    have := List.take_append_drop es.length es'
    rw [hd, x.2, List.append_nil] at this
    exact this
  · have x := b3 es'.length (Nat.le_refl _)
    rw [a3 es'.length hl, List.take_length] at x
    simp only [Prod.mk.injEq, true_and] at x
    have hlen : (progL ss p (es.take es'.length)).length = (progL ss' p' es').length := by omega
    rw [← h'.2, h.2, progL_split ss p es es'.length, List.length_append] at hlen
    have h0 : ((es.drop es'.length).flatMap fun x => 59 :: edL x) = [] := List.eq_nil_of_length_eq_zero (by omega)
    have hd : es.drop es'.length = [] := by
      match hq : es.drop es'.length with
      | [] => rfl
      | y :: r => rw [hq] at h0; simp at h0
    have := List.take_append_drop es'.length es
    rw [hd, x.2, List.append_nil] at this
    exact this.symm

/-- Where the reader stops: what was read rightly is the one program with that text, or there is none. -/
theorem read_yes {t : List UInt8} {k : Nat} (hc : ∀ j, j < k → contR t j = true) (hn : contR t k = false) (hg : (st t k).2.1 = true) (hB : progB (varsL t) (numV (ptsF t)) (st t k).2.2 = true) : ValidT t (varsL t) (numV (ptsF t)) (st t k).2.2 := by
  refine ⟨hB, ?_⟩
  obtain ⟨h1, h2⟩ := read_sound t k hc hg
  rcases h2 with h2 | ⟨r, h2⟩
  · exact h2
  · have hk : k ≤ 24 := by
      have := (prog_parts hB).2.2.1
      rw [st, stR_length] at this
      exact this
    have hlen := congrArg List.length h2
    rw [List.length_append, List.length_cons] at hlen
    simp only [contR, hg, Bool.true_and, Bool.and_eq_false_iff, decide_eq_false_iff_not] at hn
    omega
theorem read_no {t : List UInt8} {k : Nat} (hc : ∀ j, j < k → contR t j = true) (hn : contR t k = false) (hb : ((st t k).2.1 && progB (varsL t) (numV (ptsF t)) (st t k).2.2) = false) (ss : List ByteArray) (p : Int) (es : List Ed) : ¬ ValidT t ss p es := by
  intro h
  obtain ⟨a1, a2, a3⟩ := read_back h
  have hl := (prog_parts h.1).2.2.1
  have hend : contR t es.length = false := by
    have e := a3 es.length (Nat.le_refl _)
    simp only [contR, e, List.take_length, ← h.2, Bool.true_and, Bool.and_eq_false_iff, decide_eq_false_iff_not]
    omega
  have hke : k = es.length := by
    rcases Nat.lt_trichotomy k es.length with hk | hk | hk
    · have e := a3 k (by omega)
      have hgo : contR t k = true := by
        simp only [contR, e, Bool.true_and, Bool.and_eq_true, decide_eq_true_eq]
        refine ⟨?_, by omega⟩
        have hsp := congrArg List.length (progL_split ss p es k)
        rw [← h.2, List.length_append, List.drop_eq_getElem_cons hk, List.flatMap_cons, List.length_append, List.length_cons] at hsp
        omega
      rw [hgo] at hn
      cases hn
    · exact hk
    · rw [hc es.length hk] at hend
      cases hend
  subst hke
  rw [a3 es.length (Nat.le_refl _), a1, a2, List.take_length] at hb
  simp only [h.1] at hb
  cases hb
end Go.Proofs.YtpmmjaceehlpiaaGreatDoor
