/-
  Several texts of one proof in one file, in the order in which they build.
-/
import Derived.Shelf.Strings.Builder1
import Derived.Shelf.Strings.Builder2
import Derived.Shelf.Strings.OnBuilder
import Derived.Shelf.Small.Bits
import Derived.Shelf.Strconv.Itoa0
import Derived.Shelf.Strconv.Itoa1
import Derived.Shelf.LaysM
import Derived.Shelf.Strconv.Itoa2
import Derived.Shelf.Strconv.Itoa3
import Derived.Shelf.Slices.Turned
import Derived.Shelf.Slices.Equal
import Derived.Test.YtglcailcdcpadaaGreatDoorProg
import Derived.Test.YtglcailcdcpadaaGreatDoorChecked
import Derived.Test.YtglcailcdcpadaaGreatDoorRows
import Derived.Lib.LaidTab
import Derived.Stop.LaidErr
import Derived.LaidMore
import Derived.Deep.DeepWitnessRowRef
import Derived.Laws.RangeAny
import Derived.Test.YtglcailcdcpadaaGreatDoorZ03
import Derived.Test.YtglcailcdcpadaaGreatDoorZ19
import Derived.Test.YtglcailcdcpadaaGreatDoorZ08
import Derived.Test.YtglcailcdcpadaaGreatDoorZ07
/-
  Contracts of Go's library, taken from the kit's shelf at this seat's numbers: nothing is walked here, each is one application.
-/
namespace Go.Proofs
open Go.Shelf
def Tryz.lays156_ren : Go.Shelf.Ren := ⟨fun | 156 => 98 | 165 => 125 | 166 => 126 | 169 => 127 | 240 => 146 | 241 => 147 | 276 => 158 | 277 => 159 | n => n, fun | 31 => 33 | 9 => 9 | 3 => 3 | 4 => 4 | 0 => 0 | 20 => 20 | 72 => 144 | 76 => 148 | 70 => 142 | 37 => 22 | 75 => 147 | 127 => 178 | 164 => 195 | 5 => 5 | 80 => 79 | n => n, fun | n => n⟩
theorem Tryz.lays156 : Go.Proofs.Lays.n156 Tryz.prog Tryz.lays156_ren := {
  mixed := by kernel_rfl
  f156 := Tryz.func98.trans (congrArg some (by kernel_rfl))
  f165 := Tryz.func125.trans (congrArg some (by kernel_rfl))
  f166 := Tryz.func126.trans (congrArg some (by kernel_rfl))
  f169 := Tryz.func127.trans (congrArg some (by kernel_rfl))
  f240 := Tryz.func146.trans (congrArg some (by kernel_rfl))
  f241 := Tryz.func147.trans (congrArg some (by kernel_rfl))
  f276 := Tryz.func158.trans (congrArg some (by kernel_rfl))
  f277 := Tryz.func159.trans (congrArg some (by kernel_rfl))
  t0 := Tryz.underlying0
  a0 := Tryz.isAgg0
  z0 := Tryz.sizeOf0
  v0 := Tryz.zeroValue0
  t3 := Tryz.underlying3
  a3 := Tryz.isAgg3
  z3 := Tryz.sizeOf3
  v3 := Tryz.zeroValue3
  t4 := Tryz.underlying4
  a4 := Tryz.isAgg4
  z4 := Tryz.sizeOf4
  v4 := Tryz.zeroValue4
  t9 := Tryz.underlying9
  a9 := Tryz.isAgg9
  z9 := Tryz.sizeOf9
  v9 := Tryz.zeroValue9
  t20 := Tryz.underlying20
  a20 := Tryz.isAgg20
  z20 := Tryz.sizeOf20
  v20 := Tryz.zeroValue20
  t31 := Tryz.underlying33
  a31 := Tryz.isAgg33
  z31 := Tryz.sizeOf33
  v31 := Tryz.zeroValue33
  t37 := Tryz.underlying22
  a37 := Tryz.isAgg22
  z37 := Tryz.sizeOf22
  v37 := Tryz.zeroValue22
  t70 := Tryz.underlying142
  a70 := Tryz.isAgg142
  z70 := Tryz.sizeOf142
  v70 := Tryz.zeroValue142
  t72 := Tryz.underlying144
  a72 := Tryz.isAgg144
  z72 := Tryz.sizeOf144
  v72 := Tryz.zeroValue144
  t75 := Tryz.underlying147
  a75 := Tryz.isAgg147
  z75 := Tryz.sizeOf147
  v75 := Tryz.zeroValue147
  t76 := Tryz.underlying148
  a76 := Tryz.isAgg148
  z76 := Tryz.sizeOf148
  v76 := Tryz.zeroValue148
  t127 := Tryz.underlying178
  a127 := Tryz.isAgg178
  z127 := Tryz.sizeOf178
  v127 := Tryz.zeroValue178
  t164 := Tryz.underlying195
  a164 := Tryz.isAgg195
  z164 := Tryz.sizeOf195
  v164 := Tryz.zeroValue195 }
theorem Tryz.Builder_Extra_156 : Builder.Extra Tryz.prog Tryz.lays156_ren := {
  sizeBuilder := by kernel_rfl
  liesBuilder := by kernel_rfl
  t5 := Tryz.underlying5
  a5 := Tryz.isAgg5
  z5 := Tryz.sizeOf5
  v5 := Tryz.zeroValue5
  infoByte := by kernel_rfl
  cellsByte := by kernel_rfl
  sizeByte := by kernel_rfl
  neB5 := by decide }
open Go.RowKit in
theorem Tryz.strings_Join_none (a : Option Addr) (c : Nat) (sep : ByteArray) (w : World) :
    Calls Tryz.prog 98 #[.slice a 0 c, .string sep] w fun e w' => e = .returned (.string ⟨#[]⟩) ∧ w' = w := Any.strings_Join_none Tryz.lays156 Tryz.Builder_Extra_156 a c sep w
open Go.RowKit in
theorem Tryz.strings_Join (bk o c : Nat) (xs : List ByteArray) (sep : ByteArray) (w : World) (hcells : ∀ (j : Nat) x, xs[j]? = some x → w.cell? ⟨bk, o + j, none⟩ = some (.string x)) (hbk : bk < w.heap.size) (hN : xs.length ≤ 140737488355328) (hcap : xs.length ≤ c) (hlen : (Lib.join (xs.map (·.data.toList)) sep.data.toList).length ≤ 140737488355328) :
    Calls Tryz.prog 98 #[.slice (some ⟨bk, o, none⟩) xs.length c, .string sep] w fun e w' => e = .returned (.string ⟨(Lib.join (xs.map (·.data.toList)) sep.data.toList).toArray⟩) ∧ Below w.heap.size w w' := Any.strings_Join Tryz.lays156 Tryz.Builder_Extra_156 bk o c xs sep w hcells hbk hN hcap hlen
def Tryz.laysM171_ren : Go.Shelf.Ren := ⟨fun | 171 => 145 | 243 => 157 | 246 => 164 | 283 => 165 | 284 => 166 | 285 => 167 | 286 => 168 | 129 => 170 | 317 => 169 | 318 => 171 | 319 => 172 | 320 => 173 | 337 => 174 | 338 => 175 | n => n, fun | 3 => 3 | 9 => 9 | 2 => 2 | 4 => 4 | 171 => 199 | 0 => 0 | 53 => 200 | 37 => 22 | 5 => 5 | 173 => 203 | 212 => 205 | 51 => 206 | 20 => 20 | 213 => 207 | 46 => 141 | 232 => 210 | 233 => 211 | n => n, fun | 17 => 4 | 18 => 5 | 19 => 6 | n => n⟩
theorem Tryz.laysM171 : Go.Proofs.LaysM.n171 Tryz.prog Tryz.laysM171_ren := {
  mixed := by kernel_rfl
  f129 := Tryz.func170.trans (congrArg some (by kernel_rfl))
  f171 := Tryz.func145.trans (congrArg some (by kernel_rfl))
  f243 := Tryz.func157.trans (congrArg some (by kernel_rfl))
  f246 := Tryz.func164.trans (congrArg some (by kernel_rfl))
  f283 := Tryz.func165.trans (congrArg some (by kernel_rfl))
  f284 := Tryz.func166.trans (congrArg some (by kernel_rfl))
  f285 := Tryz.func167.trans (congrArg some (by kernel_rfl))
  f286 := Tryz.func168.trans (congrArg some (by kernel_rfl))
  f317 := Tryz.func169.trans (congrArg some (by kernel_rfl))
  f318 := Tryz.func171.trans (congrArg some (by kernel_rfl))
  f319 := Tryz.func172.trans (congrArg some (by kernel_rfl))
  f320 := Tryz.func173.trans (congrArg some (by kernel_rfl))
  f337 := Tryz.func174.trans (congrArg some (by kernel_rfl))
  f338 := Tryz.func175.trans (congrArg some (by kernel_rfl))
  t0 := Tryz.underlying0
  a0 := Tryz.isAgg0
  z0 := Tryz.sizeOf0
  v0 := Tryz.zeroValue0
  t2 := Tryz.underlying2
  a2 := Tryz.isAgg2
  z2 := Tryz.sizeOf2
  v2 := Tryz.zeroValue2
  t3 := Tryz.underlying3
  a3 := Tryz.isAgg3
  z3 := Tryz.sizeOf3
  v3 := Tryz.zeroValue3
  t4 := Tryz.underlying4
  a4 := Tryz.isAgg4
  z4 := Tryz.sizeOf4
  v4 := Tryz.zeroValue4
  t5 := Tryz.underlying5
  a5 := Tryz.isAgg5
  z5 := Tryz.sizeOf5
  v5 := Tryz.zeroValue5
  t9 := Tryz.underlying9
  a9 := Tryz.isAgg9
  z9 := Tryz.sizeOf9
  v9 := Tryz.zeroValue9
  t20 := Tryz.underlying20
  a20 := Tryz.isAgg20
  z20 := Tryz.sizeOf20
  v20 := Tryz.zeroValue20
  t37 := Tryz.underlying22
  a37 := Tryz.isAgg22
  z37 := Tryz.sizeOf22
  v37 := Tryz.zeroValue22
  t46 := Tryz.underlying141
  a46 := Tryz.isAgg141
  z46 := Tryz.sizeOf141
  v46 := Tryz.zeroValue141
  t51 := Tryz.underlying206
  a51 := Tryz.isAgg206
  z51 := Tryz.sizeOf206
  v51 := Tryz.zeroValue206
  t53 := Tryz.underlying200
  a53 := Tryz.isAgg200
  z53 := Tryz.sizeOf200
  v53 := Tryz.zeroValue200
  t171 := Tryz.underlying199
  a171 := Tryz.isAgg199
  z171 := Tryz.sizeOf199
  v171 := Tryz.zeroValue199
  t173 := Tryz.underlying203
  a173 := Tryz.isAgg203
  z173 := Tryz.sizeOf203
  v173 := Tryz.zeroValue203
  t212 := Tryz.underlying205
  a212 := Tryz.isAgg205
  z212 := Tryz.sizeOf205
  v212 := Tryz.zeroValue205
  t213 := Tryz.underlying207
  a213 := Tryz.isAgg207
  z213 := Tryz.sizeOf207
  t232 := Tryz.underlying210
  a232 := Tryz.isAgg210
  z232 := Tryz.sizeOf210
  v232 := Tryz.zeroValue210
  t233 := Tryz.underlying211
  a233 := Tryz.isAgg211
  z233 := Tryz.sizeOf211
  v233 := Tryz.zeroValue211
  g17 := by kernel_rfl
  g18 := by kernel_rfl
  g19 := by kernel_rfl
  i0 := by kernel_rfl
  i2 := by kernel_rfl
  i3 := by kernel_rfl
  i4 := by kernel_rfl
  i5 := by kernel_rfl
  i9 := by kernel_rfl
  i20 := by kernel_rfl
  i37 := by kernel_rfl
  i46 := by kernel_rfl
  i51 := by kernel_rfl
  i53 := by kernel_rfl
  i171 := by kernel_rfl
  i173 := by kernel_rfl
  i212 := by kernel_rfl
  i232 := by kernel_rfl
  i233 := by kernel_rfl
  m17 := by kernel_rfl
  m18 := by kernel_rfl
  m19 := by kernel_rfl }
open Go.RowKit Go.Sort Go.Lib in
theorem Tryz.strconv_Itoa (n : Int) (h0 : -9223372036854775808 ≤ n) (h1 : n ≤ 9223372036854775807) (w : World) (htab : Lib.TabIs Tryz.prog w "internal/strconv.uint64pow10" .u64 Lib.pow10Tab) :
    Calls Tryz.prog 145 #[.int .i64 n] w fun e w' => e = .returned (.string ⟨(Lib.itoa n).toArray⟩) ∧ ∃ k os, w' = grow (w.drewN k) os := Any.strconv_Itoa Tryz.laysM171 n h0 h1 w htab
end Go.Proofs
/-
  What the given rows' lists give the walks: the table of powers of ten, the two sentinels of strconv; both are kept where nothing old has turned.
-/
namespace Go.Proofs.YtglcailcdcpadaaGreatDoor
open Go Go.RowKit

theorem var_keeps {P : Program} {w w' : World} {n : String} {cs : Array Value} (h : w.var? P n = some cs) (hb : Below w.heap.size w w') : w'.var? P n = some cs := by
  unfold World.var? at h ⊢
  cases hg : P.globalNamed n with
  | none => simp [hg] at h
  | some g =>
    simp only [hg, Option.bind_some] at h ⊢
    have hlt : g < w.heap.size := by
      rcases Nat.lt_or_ge g w.heap.size with h' | h'
      · exact h'
      · simp [Array.getElem?_eq_none h'] at h
    rw [hb.block g hlt]
    exact h

theorem below_grow (w : World) (k : Nat) (os : Array Obj) : Below w.heap.size w (Sort.grow (w.drewN k) os) :=
  ⟨rfl, rfl, rfl, by simp [Sort.grow], fun i hi => by
    show (w.heap ++ os)[i]? = w.heap[i]?
    rw [Array.getElem?_append_left hi]⟩

/-- The table of powers of ten. -/
def Pows (w : World) : Prop := Lib.TabIs Tryz.prog w "internal/strconv.uint64pow10" .u64 Lib.pow10Tab
theorem Pows.keeps {w w' : World} (h : Pows w) (hb : Below w.heap.size w w') : Pows w' := var_keeps h hb

theorem gPow : Tryz.prog.globalNamed "internal/strconv.uint64pow10" = some 4 := by kernel_rfl
theorem gPowType : (Tryz.prog.globals[4]?).map (·.type) = some 205 := by kernel_rfl
theorem cellsPow : Tryz.prog.cellsOf 205 = 20 := by kernel_rfl
theorem cellsU64 : Tryz.prog.cellsOf 200 = 1 := by kernel_rfl

/-- The third on a row's list. -/
theorem pows_of {W : World} {x y : String × DataW Unit} {rest : List (String × DataW Unit)} (h : laidMet Tryz.prog (x :: y :: ("internal/strconv.uint64pow10", Rows.laid_internal_strconv_uint64pow10) :: rest) W) : Pows W :=
  Lib.tabIs_of_head (rest := rest) gPow gPowType Tryz.underlying205 Tryz.underlying200 cellsU64 cellsPow h.tail.tail

theorem starErr : "*" ++ "errors.errorString" = "*errors.errorString" := by decide
/-- The two sentinels hold something. -/
def Sents (w : World) : Prop := (∃ tp p, w.var? Tryz.prog "strconv.ErrSyntax" = some #[.iface tp p]) ∧ ∃ tp p, w.var? Tryz.prog "strconv.ErrRange" = some #[.iface tp p]
theorem Sents.keeps {w w' : World} (h : Sents w) (hb : Below w.heap.size w w') : Sents w' := by
  obtain ⟨⟨t, p, h1⟩, t', p', h2⟩ := h
  exact ⟨⟨t, p, var_keeps h1 hb⟩, t', p', var_keeps h2 hb⟩
end Go.Proofs.YtglcailcdcpadaaGreatDoor
/-
  The program's FormatInt, on the library's Itoa: for every int it returns the decimal digits, behind '-' where it is negative.
-/
namespace Go.Proofs.YtglcailcdcpadaaGreatDoor
open Go Go.RowKit

def NumEnd (n : Int) (w : World) (e : Ending) (w' : World) : Prop := e = .returned (.string ⟨(Lib.itoa n).toArray⟩) ∧ Below w.heap.size w w'

theorem implFormat (n : Int) (h0 : -9223372036854775808 ≤ n) (h1 : n ≤ 9223372036854775807) (w : World) (hp : Pows w) :
    Calls Tryz.prog 124 #[.int .i64 n] w (NumEnd n w) := by
  go_enter Tryz.func124, Tryz.ntmps124
  go_wp2_with fail
  refine (Tryz.strconv_Itoa n h0 h1 _ hp).mono ?_
  rintro e w1 ⟨rfl, k, os, rfl⟩
  go_wp2
  go_ret
  exact ⟨rfl, below_grow w k os⟩
end Go.Proofs.YtglcailcdcpadaaGreatDoor
/-
  The program's Join: it returns the strings one after the other, the separator between them.
-/
namespace Go.Proofs.YtglcailcdcpadaaGreatDoor
open Go Go.RowKit

/-- It returned the joined bytes, and nothing old has turned. -/
def JoinedEnd (l : List UInt8) (w : World) (e : Ending) (w' : World) : Prop := e = .returned (.string ⟨l.toArray⟩) ∧ Below w.heap.size w w'

theorem libJoin (a : Option Addr) (cap : Nat) (ss : List ByteArray) (sep : ByteArray) (w : World) (hcap : ss.length ≤ cap) (hn : ss.length ≤ 70368744177664) (hB : ss.length * sep.size + total ss ≤ 70368744177664) (hrow : Row w w.heap.size a (strVals ss)) :
    Calls Tryz.prog 98 #[.slice a ss.length cap, .string sep] w (JoinedEnd (jn ss sep) w) := by
  cases ss with
  | nil => exact (Tryz.strings_Join_none a cap sep w).mono fun e w' ⟨he, hw⟩ => ⟨he, by subst hw; exact Below.refl _ _⟩
  | cons s r =>
    obtain ⟨b, o, rfl, hbW, _⟩ := hrow 0 (.string s) (by simp [strVals])
    refine (Tryz.strings_Join b o cap (s :: r) sep w (fun j x hx => ?_) hbW (by omega) hcap (Nat.le_trans (jn_length (s :: r) sep) (by omega))).mono fun e w' h => h
    obtain ⟨b', o', he, _, hc⟩ := hrow j (.string x) (by simp only [strVals, List.getElem?_map, hx, Option.map_some])
    simp only [Option.some.injEq, Addr.mk.injEq, and_true] at he
    obtain ⟨rfl, rfl⟩ := he
    exact hc

set_option maxHeartbeats 400000 in
theorem implJoin (a : Option Addr) (cap : Nat) (ss : List ByteArray) (sep : ByteArray) (w : World) (hcap : ss.length ≤ cap) (hn : ss.length ≤ 70368744177664) (hB : ss.length * sep.size + total ss ≤ 70368744177664) (hrow : Row w w.heap.size a (strVals ss)) :
    Calls Tryz.prog 56 #[.slice a ss.length cap, .string sep] w (JoinedEnd (jn ss sep) w) := by
  go_enter Tryz.func56, Tryz.ntmps56
  go_wp2_with fail
  refine (libJoin a cap ss sep _ hcap hn hB hrow).mono ?_
  rintro e w1 ⟨rfl, hb⟩
  go_wp2
  go_ret
  exact ⟨rfl, hb⟩
end Go.Proofs.YtglcailcdcpadaaGreatDoor
/-
  The walk of the program's TruthText.
-/
namespace Go.Proofs.YtglcailcdcpadaaGreatDoor
open Go Go.RowKit

theorem implTruthText (a : Int) (w : World) : Calls Tryz.prog 96 #[.int .i64 a] w (Gave (.string (textT a)) w) := by
  by_cases h0 : a = 0
  · subst h0
    go_enter Tryz.func96, Tryz.ntmps96
    go_wp2
    go_ret
    exact ⟨rfl, rfl⟩
  · by_cases h1 : a = 1
    · subst h1
      go_enter Tryz.func96, Tryz.ntmps96
      go_wp2
      go_ret
      exact ⟨rfl, rfl⟩
    · by_cases h2 : a = 2
      · subst h2
        go_enter Tryz.func96, Tryz.ntmps96
        go_wp2
        go_ret
        exact ⟨rfl, rfl⟩
      · rw [show textT a = ⟨#[]⟩ from by simp [textT, h0, h1, h2]]
        have e0 : (a == 0) = false := by simpa using h0
        have e1 : (a == 1) = false := by simpa using h1
        have e2 : (a == 2) = false := by simpa using h2
        clear h0 h1 h2
        go_enter Tryz.func96, Tryz.ntmps96
        go_wp2
        go_ret
        exact ⟨rfl, rfl⟩
end Go.Proofs.YtglcailcdcpadaaGreatDoor
/-
  The program's IsName, IndexOf, AreVars, Positions: what each returns.
-/
namespace Go.Proofs.YtglcailcdcpadaaGreatDoor
open Go Go.RowKit

set_option maxHeartbeats 400000 in
theorem implIsName (s : ByteArray) (w : World) (hs : s.size ≤ maxLen) : Calls Tryz.prog 93 #[.string s] w fun e w' => e = .returned (.bool (goodName s)) ∧ Below w.heap.size w w' := by
  unfold maxLen at hs
  go_enter Tryz.func93, Tryz.ntmps93
  go_wp2
  go_loopw [3] (fun _ wr => ∃ k : Nat, k ≤ s.size ∧ k ≤ 2 ∧ wr = w.iter s k ∧ ∀ j (h : j < s.size), j < k → 97 ≤ (s[j]'h).toNat ∧ (s[j]'h).toNat ≤ 122) (fun _ wr => s.size - wr.iterPos w.heap.size)
  case atStart => exact ⟨0, Nat.zero_le _, by omega, rfl, fun j _ h => by omega⟩
  case round =>
    obtain ⟨k, hk, hk2, rfl, hall⟩ := hrel
    have Hall := Lib.hid hall
    clear hall
    by_cases hlt : k < s.size
    · by_cases hlow : (s[k]'hlt).toNat < 128
      · have hnx : ∀ ty, (Instr.next (.pointer (some ⟨w.heap.size, 0, none⟩)) true ty).run Tryz.prog (w.iter s k) = _ := fun ty => run_next_ascii w s k ty hlt hlow
        by_cases htwo : k = 2
        · subst htwo
          have hbad : goodName s = false := name_long hlt
          have Hbad := Lib.hid hbad
          clear hbad
          go_wp2
          go_ret
          rw [Hbad.out]
          exact ⟨rfl, (Below.refl _ _).alloc (Nat.le_refl _) _⟩
        · have htwo' : ((k : Int) == 2) = false := by simp; omega
          by_cases hlo : ((s[k]'hlt).toNat : Int) < 97
          · have hbad : goodName s = false := name_bad hlt (.inl (by omega))
            have Hbad := Lib.hid hbad
            clear hbad
            go_wp2
            go_ret
            rw [Hbad.out]
            exact ⟨rfl, (Below.refl _ _).alloc (Nat.le_refl _) _⟩
          · by_cases hhi : 122 < ((s[k]'hlt).toNat : Int)
            · have hbad : goodName s = false := name_bad hlt (.inr (by omega))
              have Hbad := Lib.hid hbad
              clear hbad
              go_wp2
              go_ret
              rw [Hbad.out]
              exact ⟨rfl, (Below.refl _ _).alloc (Nat.le_refl _) _⟩
            · go_wp2
              go_roundw
              case rel =>
                refine ⟨k + 1, by omega, by omega, rfl, fun j h hj => ?_⟩
                by_cases hjk : j = k
                · subst hjk
                  omega
                · exact Hall.out j h (by omega)
              case measure => simp; omega
      · have hnx : ∀ ty, (Instr.next (.pointer (some ⟨w.heap.size, 0, none⟩)) true ty).run Tryz.prog (w.iter s k) = _ := fun ty => run_next_any w s k ty hlt
        have hhigh := (decode_high s k hlt (by omega)).1
        have hbad : goodName s = false := name_bad hlt (.inr (by omega))
        have Hbad := Lib.hid hbad
        clear hbad
        generalize Utf8.decode s k = dc at *
        have hlo : ¬ (dc.1 : Int) < 97 := by omega
        have hhi : 122 < (dc.1 : Int) := by omega
        by_cases htwo : k = 2
        · subst htwo
          go_wp2
          go_ret
          rw [Hbad.out]
          exact ⟨rfl, (Below.refl _ _).alloc (Nat.le_refl _) _⟩
        · have htwo' : ((k : Int) == 2) = false := by simp; omega
          go_wp2
          go_ret
          rw [Hbad.out]
          exact ⟨rfl, (Below.refl _ _).alloc (Nat.le_refl _) _⟩
    · have hnx : ∀ ty, (Instr.next (.pointer (some ⟨w.heap.size, 0, none⟩)) true ty).run Tryz.prog (w.iter s k) = _ := fun ty => run_next_end w s k ty hlt
      have hgood : goodName s = decide (1 ≤ s.size ∧ s.size ≤ 2) := name_whole fun j h => Hall.out j h (by omega)
      have Hgood := Lib.hid hgood
      clear hgood
      by_cases h0 : s = ⟨#[]⟩
      · subst h0
        go_wp2
        go_ret
        rw [Hgood.out]
        exact ⟨rfl, (Below.refl _ _).alloc (Nat.le_refl _) _⟩
      · have hsz : 1 ≤ s.size := by
          rcases Nat.eq_zero_or_pos s.size with h | h
          · exact absurd (ByteArray.size_eq_zero_iff.1 h) h0
          · exact h
        have hne : s.toList.isEmpty = false := by
          rw [ByteArray.toList_eq]
          simpa using (fun h => by simp [ByteArray.size, h] at hsz)
        go_wp2
        go_ret
        rw [Hgood.out, decide_eq_true ⟨hsz, by omega⟩]
        exact ⟨rfl, (Below.refl _ _).alloc (Nat.le_refl _) _⟩

set_option maxHeartbeats 400000 in
theorem implIndexOf (a : Option Addr) (cap : Nat) (ss : List ByteArray) (s : ByteArray) (w : World) (hlen : ss.length ≤ maxLen) (hrow : Row w w.heap.size a (strVals ss)) :
    Calls Tryz.prog 94 #[.slice a ss.length cap, .string s] w fun e w' => e = .returned (.int .i64 (place ss s)) ∧ w = w' := by
  unfold maxLen at hlen
  go_enter Tryz.func94, Tryz.ntmps94
  go_wp2
  go_loop [9] (fun i => ∃ k : Nat, k ≤ ss.length ∧ i = .int .i64 k ∧ place ss s = placeFrom s k (ss.drop k)) (fun i => ss.length - (intOf i).toNat)
  case atStart => exact ⟨0, Nat.zero_le _, rfl, rfl⟩
  case round =>
    obtain ⟨k, hk, rfl, hp⟩ := hrel
    by_cases hlt : k < ss.length
    · obtain ⟨b, o, rfl, hbW, hc⟩ := hrow k (.string ss[k]) (by simp [strVals, hlt])
      cases he : (ss[k].toList == s.toList) with
      | true =>
        rw [place_hit hlt he] at hp
        have Hp := Lib.hid hp
        clear hp
        go_wp2
        go_ret
        rw [Hp.out]
        exact ⟨rfl, rfl⟩
      | false =>
        rw [place_miss hlt he] at hp
        have Hp := Lib.hid hp
        clear hp
        go_wp2
        go_round
        case rel => exact ⟨k + 1, by omega, by go_num, Hp.out⟩
        case measure => simp [intOf]; omega
    · rw [place_end (by omega)] at hp
      have Hp := Lib.hid hp
      clear hp
      go_wp2
      go_ret
      rw [Hp.out]
      exact ⟨rfl, rfl⟩

set_option maxHeartbeats 400000 in
theorem implAreVars (a : Option Addr) (cap : Nat) (ss : List ByteArray) (w : World) (hlen : ss.length ≤ maxLen) (hws : ∀ s ∈ ss, s.size ≤ maxLen) (hrow : Row w w.heap.size a (strVals ss)) :
    Calls Tryz.prog 54 #[.slice a ss.length cap] w fun e w' => e = .returned (.bool (goodVars ss)) ∧ Below w.heap.size w w' := by
  have hlen' := hlen
  unfold maxLen at hlen
  by_cases hin : 1 ≤ ss.length ∧ ss.length ≤ 4
  · have h0 : ((ss.length : Int) == 0) = false := by simp only [beq_eq_false_iff_ne, ne_eq]; omega
    have h4 : ¬ 4 < (ss.length : Int) := by omega
    go_enter Tryz.func54, Tryz.ntmps54
    go_wp2
    go_loopw [15] (fun i wr => ∃ k : Nat, k ≤ ss.length ∧ i = .int .i64 k ∧ Below w.heap.size w wr ∧ ∀ j (h : j < ss.length), j < k → goodName ss[j] = true ∧ place ss ss[j] = (j : Int)) (fun i _ => ss.length - (intOf i).toNat)
    case atStart => exact ⟨0, Nat.zero_le _, rfl, Below.refl _ _, fun j _ h => by omega⟩
    case round =>
      obtain ⟨k, hk, rfl, hb, hall⟩ := hrel
      have Hall := Lib.hid hall
      clear hall
      by_cases hlt : k < ss.length
      · obtain ⟨b, o, rfl, hbW, hc0⟩ := hrow k (.string ss[k]) (by simp [strVals, hlt])
        have hc : wr.cell? ⟨b, o + k, none⟩ = some (.string ss[k]) := (hb.cell (p := ⟨b, o + k, none⟩) hbW).trans hc0
        clear hc0
        have hsz := hws ss[k] (List.getElem_mem hlt)
        cases hg : goodName ss[k] with
        | false =>
          have hbad : goodVars ss = false := vars_bad hlt (by rw [hg]; simp)
          have Hbad := Lib.hid hbad
          have Hg := Lib.hid hg
          clear hbad hg
          go_wp2_with fail
          refine (implIsName ss[k] _ hsz).mono ?_
          rintro e w1 ⟨rfl, hb1⟩
          rw [Hg.out]
          have hb2 := hb.trans (hb1.mono hb.size)
          clear hb1
          go_wp2
          go_ret
          rw [Hbad.out]
          exact ⟨rfl, hb2⟩
        | true =>
          have Hg := Lib.hid hg
          clear hg
          go_wp2_with fail
          refine (implIsName ss[k] _ hsz).mono ?_
          rintro e w1 ⟨rfl, hb1⟩
          rw [Hg.out]
          have hb2 := hb.trans (hb1.mono hb.size)
          clear hb1 hc
          go_wp2_with fail
          refine (implIndexOf _ _ ss ss[k] _ hlen' ((hrow.below hb2).grow hb2.size)).mono ?_
          rintro e w1 ⟨rfl, rfl⟩
          by_cases hp : place ss ss[k] = (k : Int)
          · rw [hp]
            have Hp := Lib.hid hp
            clear hp
            go_wp2
            go_roundw
            case rel =>
              refine ⟨k + 1, by omega, by go_num, hb2, fun j h hj => ?_⟩
              by_cases hjk : j = k
              · subst hjk
                exact ⟨Hg.out, Hp.out⟩
              · exact Hall.out j h (by omega)
            case measure => simp [intOf]; omega
          · have hbad : goodVars ss = false := vars_bad hlt (fun h => hp h.2)
            have Hbad := Lib.hid hbad
            have hne : (place ss ss[k] != (k : Int)) = true := by simpa using hp
            clear hbad
            generalize place ss ss[k] = q at *
            go_wp2
            go_ret
            rw [Hbad.out]
            exact ⟨rfl, hb2⟩
      · have hgood : goodVars ss = true := by
          rw [vars_whole fun j h => Hall.out j h (by omega)]
          exact decide_eq_true hin
        have Hgood := Lib.hid hgood
        clear hgood
        go_wp2
        go_ret
        rw [Hgood.out]
        exact ⟨rfl, hb⟩
  · have hbad : goodVars ss = false := vars_length hin
    have Hbad := Lib.hid hbad
    clear hbad
    rcases Nat.eq_zero_or_pos ss.length with h | h
    · rw [h]
      go_enter Tryz.func54, Tryz.ntmps54
      go_wp2
      go_ret
      rw [Hbad.out]
      exact ⟨rfl, Below.refl _ _⟩
    · have h0 : ((ss.length : Int) == 0) = false := by simp only [beq_eq_false_iff_ne, ne_eq]; omega
      have h4 : 4 < (ss.length : Int) := by omega
      go_enter Tryz.func54, Tryz.ntmps54
      go_wp2
      go_ret
      rw [Hbad.out]
      exact ⟨rfl, Below.refl _ _⟩

end Go.Proofs.YtglcailcdcpadaaGreatDoor
