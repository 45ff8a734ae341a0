/-
  Several texts of one proof in one file, in the order in which they build.
-/
import Derived.Lib.Join
import Derived.Lib.UnsafeStr
import Derived.Laws.BytesString
import Derived.Laws.IdiomStrings
import Derived.Lib.ItoaLen
import Derived.Laws.Concat
import Derived.Test.YtglcailcdcpadaaGreatDoorZ03
import Derived.Test.YtglcailcdcpadaaGreatDoorZ18
/-
  What joining gives, as lists of bytes; a slice of the call's own bytes read as a string. Nothing here knows of the program.
-/
namespace Go.Proofs.YtglcailcdcpadaaGreatDoor
open Go Go.RowKit

/-- The strings one after the other, the separator between them. -/
def jn (ss : List ByteArray) (sep : ByteArray) : List UInt8 := Lib.join (ss.map (·.data.toList)) sep.data.toList

theorem jn_nil (sep : ByteArray) : jn [] sep = [] := rfl
theorem jn_one (x sep : ByteArray) : jn [x] sep = x.data.toList := Lib.join_one _ _
theorem jn_snoc (y : ByteArray) (l : List ByteArray) (x sep : ByteArray) : jn ((y :: l) ++ [x]) sep = jn (y :: l) sep ++ sep.data.toList ++ x.data.toList := by
  simp [jn, Lib.join_cons, Lib.joinTail, List.append_assoc]
theorem size_toList (s : ByteArray) : s.data.toList.length = s.size := by simp
theorem lens_total (ss : List ByteArray) : Lib.lens (ss.map (·.data.toList)) = total ss := by
  induction ss with
  | nil => rfl
  | cons s r ih =>
    simp only [Lib.lens, total, List.map_cons, List.map_map, List.sum_cons] at ih ⊢
    rw [ih, size_toList]
theorem jn_length (ss : List ByteArray) (sep : ByteArray) : (jn ss sep).length ≤ ss.length * sep.size + total ss := by
  cases ss with
  | nil => simp [jn_nil]
  | cons s r =>
    have h := Lib.join_length s.data.toList (r.map (·.data.toList)) sep.data.toList
    have h2 := lens_total (s :: r)
    rw [List.map_cons] at h2
    rw [h2, List.length_map, size_toList] at h
    rw [jn, List.map_cons, h, List.length_cons, Nat.add_mul, Nat.one_mul, Nat.mul_comm]
    omega
theorem jn_next (ss : List ByteArray) (sep : ByteArray) (k : Nat) (h : k < ss.length) (h0 : 0 < k) : jn (ss.take (k + 1)) sep = jn (ss.take k) sep ++ sep.data.toList ++ ss[k].data.toList := by
  rw [take_next ss k h]
  match hss : ss.take k with
  | [] =>
    have := congrArg List.length hss
    rw [List.length_take, List.length_nil] at this
    omega
  | y :: l => exact jn_snoc y l ss[k] sep
theorem jn_first (ss : List ByteArray) (sep : ByteArray) (h : 0 < ss.length) : jn (ss.take 1) sep = ss[0].data.toList := by
  rw [take_next ss 0 h]
  exact jn_one _ _

theorem total_take (ss : List ByteArray) (k : Nat) : total (ss.take k) ≤ total ss := by
  have h := total_append (ss.take k) (ss.drop k)
  rw [List.take_append_drop] at h
  omega
theorem jn_bound (ss : List ByteArray) (sep : ByteArray) (k : Nat) : (jn (ss.take k) sep).length ≤ ss.length * sep.size + total ss := by
  have h1 := jn_length (ss.take k) sep
  have h2 := total_take ss k
  have h3 : (ss.take k).length * sep.size ≤ ss.length * sep.size := Nat.mul_le_mul_right _ (by rw [List.length_take]; omega)
  omega

/-- string(b), b bytes of the call's own. -/
theorem string_owned {P : Program} {w : World} {base e n : Nat} {v : Value} {l : List UInt8} (src dst : TypeId) (hs : P.underlying src = some (.slice e)) (he : P.underlying e = some (.int .u8)) (hd : P.underlying dst = some .string)
    (h : w.ownsRow base e 1 v n (Lib.byteCells l)) : (convert src dst v).run P w = .ok (.string ⟨l.toArray⟩) w := by
  have hl := h.1
  rw [Lib.byteCells_length, Nat.mul_one] at hl
  rcases h.2 with ⟨rfl, hn⟩ | ⟨g, cap, cur, rfl, _, _, _⟩
  · have : l = [] := List.eq_nil_of_length_eq_zero (by omega)
    subst this
    rw [run_convert_bytes_string w src dst e none 0 0 hs he hd]
    rfl
  · have hc := h.cells (g := g) rfl
    rw [← hl]
    refine run_convert_bytes_back w src dst e ⟨g, 0, none⟩ cap l hs he hd fun j hj => hc j _ ?_
    simp [Lib.byteCells, List.getElem?_eq_getElem hj]
end Go.Proofs.YtglcailcdcpadaaGreatDoor
/-
  The text of a structure, in plain words; bounds. Nothing here knows of the program's text.
-/
namespace Go.Proofs.YtglcailcdcpadaaGreatDoor
open Go Go.RowKit

def valT (l : List Int) : ByteArray := l.foldl (fun a z => a ++ textT z) ⟨#[]⟩
theorem valT_next (l : List Int) (k : Nat) (h : k < l.length) : valT (l.take (k + 1)) = valT (l.take k) ++ textT l[k] := by
  unfold valT
  rw [take_next l k h, List.foldl_append]
  rfl
theorem textT_size (a : Int) : (textT a).size ≤ 1 := by
  unfold textT
  repeat' split
  all_goals decide
theorem valT_size : ∀ l : List Int, (valT l).size ≤ l.length := by
  intro l
  have key : ∀ k, k ≤ l.length → (valT (l.take k)).size ≤ k := by
    intro k
    induction k with
    | zero => intro _; exact Nat.le_refl 0
    | succ k ih =>
      intro hk
      rw [valT_next l k hk, ByteArray.size_append]
      have := ih (by omega)
      have := textT_size l[k]
      omega
  have := key l.length (Nat.le_refl _)
  rwa [List.take_length] at this
def numT (j : Nat) : ByteArray := ⟨(Lib.itoa (j : Int)).toArray⟩
theorem numT_size (j : Nat) (h : j ≤ 1048576) : (numT j).size ≤ 21 := by
  have h2 : (Lib.itoa (j : Int)).length ≤ 21 := Lib.itoa_length_le (j : Int) (by omega) (by omega)
  have h3 : (numT j).size = (Lib.itoa (j : Int)).length := rfl
  omega
/-- The text of one target, or none. -/
def tgt1 (j : Nat) (z : Int) : List ByteArray := if z = 2 then [numT j] else if z = 1 then [numT j ++ ⟨#[63]⟩] else []
def tgtsTo (es : List Int) (k : Nat) : List ByteArray := (List.range k).flatMap fun j => tgt1 j (es.getD j 0)
theorem tgtsTo_succ (es : List Int) (k : Nat) (h : k < es.length) : tgtsTo es (k + 1) = tgtsTo es k ++ tgt1 k es[k] := by
  have : es.getD k 0 = es[k] := by simp [h]
  unfold tgtsTo
  rw [List.range_succ, List.flatMap_append, List.flatMap_singleton, this]
theorem tgt1_size (j : Nat) (z : Int) (h : j ≤ 1048576) : (tgt1 j z).length ≤ 1 ∧ ∀ s ∈ tgt1 j z, s.size ≤ 22 := by
  have hn := numT_size j h
  unfold tgt1
  by_cases h2 : z = 2
  · rw [if_pos h2]
    exact ⟨Nat.le_refl _, fun s hs => by rw [List.mem_singleton.1 hs]; omega⟩
  · rw [if_neg h2]
    by_cases h1 : z = 1
    · rw [if_pos h1]
      refine ⟨Nat.le_refl _, fun s hs => ?_⟩
      rw [List.mem_singleton.1 hs, ByteArray.size_append]
      show _ + 1 ≤ 22
      omega
    · rw [if_neg h1]
      exact ⟨Nat.zero_le _, fun s hs => by cases hs⟩
theorem tgts_size (es : List Int) : ∀ k, k ≤ 1048576 → (tgtsTo es k).length ≤ k ∧ ∀ s ∈ tgtsTo es k, s.size ≤ 22 := by
  intro k
  induction k with
  | zero => intro _; exact ⟨Nat.le_refl _, fun s hs => by simp [tgtsTo] at hs⟩
  | succ k ih =>
    intro hk
    have h1 := ih (by omega)
    have h2 := tgt1_size k (es.getD k 0) (by omega)
    have e : tgtsTo es (k + 1) = tgtsTo es k ++ tgt1 k (es.getD k 0) := by
      unfold tgtsTo
      rw [List.range_succ, List.flatMap_append, List.flatMap_singleton]
    rw [e, List.length_append]
    exact ⟨by omega, fun s hs => (List.mem_append.1 hs).elim (h1.2 s) (h2.2 s)⟩
theorem total_le21 {ss : List ByteArray} {n : Nat} (h : ∀ s ∈ ss, s.size ≤ n) : total ss ≤ ss.length * n := by
  induction ss with
  | nil => simp [total]
  | cons s r ih =>
    have h1 := h s (by simp)
    have h2 := ih fun x hx => h x (by simp [hx])
    simp only [total, List.map_cons, List.sum_cons, List.length_cons, Nat.add_mul, Nat.one_mul] at h2 ⊢
    omega
/-- The text of a node's values. -/
def headST (vs zs : List Int) (s m : Int) : ByteArray := if m = 1 then valT vs ++ valT zs ++ textT s ++ ⟨#[42]⟩ else valT vs ++ valT zs ++ textT s
def tailST (ts : List ByteArray) : ByteArray := if ts = [] then ⟨#[]⟩ else ⟨#[62]⟩ ++ ⟨(jn ts ⟨#[44]⟩).toArray⟩
def nodeST (x : NBody) (es : List Int) : ByteArray := headST x.1.1 x.1.2 x.2.1 x.2.2 ++ tailST (tgtsTo es es.length)
theorem headST_size (vs zs : List Int) (s m : Int) : (headST vs zs s m).size ≤ vs.length + zs.length + 2 := by
  have h1 := valT_size vs
  have h2 := valT_size zs
  have h3 := textT_size s
  have h4 : (⟨#[42]⟩ : ByteArray).size = 1 := rfl
  unfold headST
  split <;> simp only [ByteArray.size_append, h4] <;> omega
theorem tailST_size (ts : List ByteArray) (h : ts.length ≤ 1048576) (hs : ∀ s ∈ ts, s.size ≤ 22) : (tailST ts).size ≤ 23 * ts.length + 1 := by
  have h1 := jn_length ts ⟨#[44]⟩
  have h2 := total_le21 hs
  have h3 : (⟨#[44]⟩ : ByteArray).size = 1 := rfl
  have h4 : (⟨#[62]⟩ : ByteArray).size = 1 := rfl
  have h5 : (⟨(jn ts ⟨#[44]⟩).toArray⟩ : ByteArray).size = (jn ts ⟨#[44]⟩).length := rfl
  rw [h3] at h1
  unfold tailST
  by_cases h0 : ts = []
  · rw [if_pos h0]
    show 0 ≤ _
    omega
  · rw [if_neg h0, ByteArray.size_append, h4, h5]
    omega
theorem nodeST_size (x : NBody) (es : List Int) (h1 : x.1.1.length ≤ 4) (h2 : x.1.2.length ≤ 4) (h3 : es.length ≤ 10) : (nodeST x es).size ≤ 300 := by
  have a1 := headST_size x.1.1 x.1.2 x.2.1 x.2.2
  have a2 := tgts_size es es.length (by omega)
  have a3 := tailST_size (tgtsTo es es.length) (by omega) a2.2
  unfold nodeST
  rw [ByteArray.size_append]
  omega
/-- The row of Next of a node. -/
def partE (n : Nat) (zs : List Int) (i : Nat) : List Int := (zs.drop (i * n)).take n
def nodesST (s : SBody) (k : Nat) : List ByteArray := (List.range k).map fun i => nodeST (s.1.getD i (([], []), 0, 0)) (partE s.1.length s.2 i)
theorem nodesST_succ (s : SBody) (k : Nat) : nodesST s (k + 1) = nodesST s k ++ [nodeST (s.1.getD k (([], []), 0, 0)) (partE s.1.length s.2 k)] := by simp [nodesST, List.range_succ]
theorem nodesST_length (s : SBody) (k : Nat) : (nodesST s k).length = k := by simp [nodesST]
/-- The text of a structure. -/
def stT (ss : List ByteArray) (s : SBody) : ByteArray :=
  if (goodVars ss && stB (ss.length : Int) s) = true then (if s.1.length = 0 then ⟨#[45]⟩ else ⟨(jn (nodesST s s.1.length) ⟨#[32]⟩).toArray⟩) else ⟨#[]⟩
theorem stT_no {ss : List ByteArray} {s : SBody} (h : (goodVars ss && stB (ss.length : Int) s) = false) : stT ss s = ⟨#[]⟩ := by rw [stT, if_neg (by simp [h])]
theorem stT_nil {ss : List ByteArray} {s : SBody} (h : (goodVars ss && stB (ss.length : Int) s) = true) (h0 : s.1.length = 0) : stT ss s = ⟨#[45]⟩ := by rw [stT, if_pos h, if_pos h0]
theorem stT_some {ss : List ByteArray} {s : SBody} (h : (goodVars ss && stB (ss.length : Int) s) = true) (h0 : ¬ s.1.length = 0) : stT ss s = ⟨(jn (nodesST s s.1.length) ⟨#[32]⟩).toArray⟩ := by rw [stT, if_pos h, if_neg h0]
/-- What a structure that is one keeps to. -/
structure StOk (v : Int) (x : St) : Prop where
  v4 : v ≤ 4
  n10 : x.ns.length ≤ 10
  sq : x.zs.length = x.ns.length * x.ns.length
  each : ∀ y ∈ x.ns, (y.h.vs.length : Int) = v ∧ (y.h.zs.length : Int) = v
theorem stOk {v : Int} {x : St} (h : stB v x.body = true) : StOk v x := by
  rw [stB_eq] at h
  simp only [Bool.and_eq_true, decide_eq_true_eq, pairsB, List.all_eq_true] at h
  obtain ⟨⟨⟨⟨⟨_, h1⟩, h2⟩, h3⟩, h4⟩, _⟩ := h
  refine ⟨h1, h2, h3, fun y hy => ?_⟩
  have := h4 y hy
  rw [ndB_eq] at this
  simp only [Bool.and_eq_true, decide_eq_true_eq] at this
  exact this.1.1.1.1
theorem nodes_total {v : Int} {x : St} (h : StOk v x) : total (nodesST x.body x.ns.length) ≤ 3000 := by
  have hb : x.body.1.length = x.ns.length := by simp [St.body]
  have h1 : total (nodesST x.body x.ns.length) ≤ (nodesST x.body x.ns.length).length * 300 := total_le21 fun s hs => by
    obtain ⟨i, hi, rfl⟩ := List.mem_map.1 hs
    have hi := List.mem_range.1 hi
    have e : x.body.1.getD i (([], []), 0, 0) = x.ns[i].body := by simp [St.body, hi]
    have hy := h.each x.ns[i] (List.getElem_mem hi)
    have hv := h.v4
    refine nodeST_size _ _ ?_ ?_ ?_
    · rw [e]
      show x.ns[i].h.vs.length ≤ 4
      omega
    · rw [e]
      show x.ns[i].h.zs.length ≤ 4
      omega
    · unfold partE
      rw [List.length_take]
      have := h.n10
      omega
  rw [nodesST_length] at h1
  have := h.n10
  omega
end Go.Proofs.YtglcailcdcpadaaGreatDoor
