/-
  Where the library's Itoa and Join lie in this program. (By the shelf's own tool; the numbers are the seat's: tools/shelft.sh prints them anew.)
  A number as the program writes it.
  The program's reader: its box, and how the worlds go on.
  What ReadLine's row lists, as it lies; a world that meets it.
  Two lines that say the same: laws.wLine.
  A text as plain bytes: its lines, and what is read of each.
  A row of trains of a call's own, each with its row of legs: no two in one block.
-/
import Derived.Test.YtnjaegeapcijpaaGreatDoorProg
import Derived.Shelf.Strconv.Itoa3
import Derived.Shelf.Strings.OnBuilder
import Derived.Test.YtnjaegeapcijpaaGreatDoorGA
import Derived.Stop.LaidErr
import Derived.Test.YtnjaegeapcijpaaGreatDoorBase
import Derived.Deep.RegionHeld3
import Derived.Test.YtnjaegeapcijpaaGreatDoorGroups
import Derived.Test.YtnjaegeapcijpaaGreatDoorApp
import Derived.Lib.SmallJoins
import Derived.OneCell
namespace Go.Proofs.YtnjaegeapcijpaaGreatDoor
open Go.Shelf

def Tryz.lays156_ren : Go.Shelf.Ren := ⟨fun | 156 => 73 | 165 => 100 | 166 => 101 | 169 => 102 | 240 => 124 | 241 => 125 | 276 => 143 | 277 => 144 | n => n, fun | 31 => 119 | 9 => 9 | 3 => 3 | 4 => 4 | 0 => 0 | 20 => 20 | 72 => 161 | 76 => 162 | 70 => 159 | 37 => 22 | 75 => 131 | 127 => 190 | 164 => 169 | 5 => 5 | 80 => 164 | n => n, fun | n => n⟩
theorem Tryz.lays156 : Go.Proofs.Lays.n156 Tryz.prog Tryz.lays156_ren := {
  mixed := by kernel_rfl
  f156 := Tryz.func73.trans (congrArg some (by kernel_rfl))
  f165 := Tryz.func100.trans (congrArg some (by kernel_rfl))
  f166 := Tryz.func101.trans (congrArg some (by kernel_rfl))
  f169 := Tryz.func102.trans (congrArg some (by kernel_rfl))
  f240 := Tryz.func124.trans (congrArg some (by kernel_rfl))
  f241 := Tryz.func125.trans (congrArg some (by kernel_rfl))
  f276 := Tryz.func143.trans (congrArg some (by kernel_rfl))
  f277 := Tryz.func144.trans (congrArg some (by kernel_rfl))
  t0 := Tryz.underlying0
  a0 := Tryz.isAgg0
  z0 := Tryz.sizeOf0
  v0 := Tryz.zeroValue0
  t3 := Tryz.underlying3
  a3 := Tryz.isAgg3
  z3 := Tryz.sizeOf3
  v3 := Tryz.zeroValue3
  t4 := Tryz.underlying4
  a4 := Tryz.isAgg4
  z4 := Tryz.sizeOf4
  v4 := Tryz.zeroValue4
  t9 := Tryz.underlying9
  a9 := Tryz.isAgg9
  z9 := Tryz.sizeOf9
  v9 := Tryz.zeroValue9
  t20 := Tryz.underlying20
  a20 := Tryz.isAgg20
  z20 := Tryz.sizeOf20
  v20 := Tryz.zeroValue20
  t31 := Tryz.underlying119
  a31 := Tryz.isAgg119
  z31 := Tryz.sizeOf119
  v31 := Tryz.zeroValue119
  t37 := Tryz.underlying22
  a37 := Tryz.isAgg22
  z37 := Tryz.sizeOf22
  v37 := Tryz.zeroValue22
  t70 := Tryz.underlying159
  a70 := Tryz.isAgg159
  z70 := Tryz.sizeOf159
  v70 := Tryz.zeroValue159
  t72 := Tryz.underlying161
  a72 := Tryz.isAgg161
  z72 := Tryz.sizeOf161
  v72 := Tryz.zeroValue161
  t75 := Tryz.underlying131
  a75 := Tryz.isAgg131
  z75 := Tryz.sizeOf131
  v75 := Tryz.zeroValue131
  t76 := Tryz.underlying162
  a76 := Tryz.isAgg162
  z76 := Tryz.sizeOf162
  v76 := Tryz.zeroValue162
  t127 := Tryz.underlying190
  a127 := Tryz.isAgg190
  z127 := Tryz.sizeOf190
  v127 := Tryz.zeroValue190
  t164 := Tryz.underlying169
  a164 := Tryz.isAgg169
  z164 := Tryz.sizeOf169
  v164 := Tryz.zeroValue169 }
theorem Tryz.Builder_Extra_156 : Builder.Extra Tryz.prog Tryz.lays156_ren := {
  sizeBuilder := by kernel_rfl
  liesBuilder := by kernel_rfl
  t5 := Tryz.underlying5
  a5 := Tryz.isAgg5
  z5 := Tryz.sizeOf5
  v5 := Tryz.zeroValue5
  infoByte := by kernel_rfl
  cellsByte := by kernel_rfl
  sizeByte := by kernel_rfl
  neB5 := by decide }
def Tryz.laysM171_ren : Go.Shelf.Ren := ⟨fun | 171 => 72 | 243 => 99 | 246 => 123 | 283 => 139 | 284 => 140 | 285 => 141 | 286 => 142 | 129 => 94 | 317 => 151 | 318 => 152 | 319 => 153 | 320 => 154 | 337 => 163 | 338 => 164 | n => n, fun | 3 => 3 | 9 => 9 | 2 => 2 | 4 => 4 | 171 => 216 | 0 => 0 | 53 => 52 | 37 => 22 | 5 => 5 | 173 => 218 | 212 => 225 | 51 => 152 | 20 => 20 | 213 => 226 | 46 => 114 | 232 => 245 | 233 => 246 | n => n, fun | 17 => 2 | 18 => 4 | 19 => 5 | n => n⟩
theorem Tryz.laysM171 : Go.Proofs.LaysM.n171 Tryz.prog Tryz.laysM171_ren := {
  mixed := by kernel_rfl
  f129 := Tryz.func94.trans (congrArg some (by kernel_rfl))
  f171 := Tryz.func72.trans (congrArg some (by kernel_rfl))
  f243 := Tryz.func99.trans (congrArg some (by kernel_rfl))
  f246 := Tryz.func123.trans (congrArg some (by kernel_rfl))
  f283 := Tryz.func139.trans (congrArg some (by kernel_rfl))
  f284 := Tryz.func140.trans (congrArg some (by kernel_rfl))
  f285 := Tryz.func141.trans (congrArg some (by kernel_rfl))
  f286 := Tryz.func142.trans (congrArg some (by kernel_rfl))
  f317 := Tryz.func151.trans (congrArg some (by kernel_rfl))
  f318 := Tryz.func152.trans (congrArg some (by kernel_rfl))
  f319 := Tryz.func153.trans (congrArg some (by kernel_rfl))
  f320 := Tryz.func154.trans (congrArg some (by kernel_rfl))
  f337 := Tryz.func163.trans (congrArg some (by kernel_rfl))
  f338 := Tryz.func164.trans (congrArg some (by kernel_rfl))
  t0 := Tryz.underlying0
  a0 := Tryz.isAgg0
  z0 := Tryz.sizeOf0
  v0 := Tryz.zeroValue0
  t2 := Tryz.underlying2
  a2 := Tryz.isAgg2
  z2 := Tryz.sizeOf2
  v2 := Tryz.zeroValue2
  t3 := Tryz.underlying3
  a3 := Tryz.isAgg3
  z3 := Tryz.sizeOf3
  v3 := Tryz.zeroValue3
  t4 := Tryz.underlying4
  a4 := Tryz.isAgg4
  z4 := Tryz.sizeOf4
  v4 := Tryz.zeroValue4
  t5 := Tryz.underlying5
  a5 := Tryz.isAgg5
  z5 := Tryz.sizeOf5
  v5 := Tryz.zeroValue5
  t9 := Tryz.underlying9
  a9 := Tryz.isAgg9
  z9 := Tryz.sizeOf9
  v9 := Tryz.zeroValue9
  t20 := Tryz.underlying20
  a20 := Tryz.isAgg20
  z20 := Tryz.sizeOf20
  v20 := Tryz.zeroValue20
  t37 := Tryz.underlying22
  a37 := Tryz.isAgg22
  z37 := Tryz.sizeOf22
  v37 := Tryz.zeroValue22
  t46 := Tryz.underlying114
  a46 := Tryz.isAgg114
  z46 := Tryz.sizeOf114
  v46 := Tryz.zeroValue114
  t51 := Tryz.underlying152
  a51 := Tryz.isAgg152
  z51 := Tryz.sizeOf152
  v51 := Tryz.zeroValue152
  t53 := Tryz.underlying52
  a53 := Tryz.isAgg52
  z53 := Tryz.sizeOf52
  v53 := Tryz.zeroValue52
  t171 := Tryz.underlying216
  a171 := Tryz.isAgg216
  z171 := Tryz.sizeOf216
  v171 := Tryz.zeroValue216
  t173 := Tryz.underlying218
  a173 := Tryz.isAgg218
  z173 := Tryz.sizeOf218
  v173 := Tryz.zeroValue218
  t212 := Tryz.underlying225
  a212 := Tryz.isAgg225
  z212 := Tryz.sizeOf225
  v212 := Tryz.zeroValue225
  t213 := Tryz.underlying226
  a213 := Tryz.isAgg226
  z213 := Tryz.sizeOf226
  t232 := Tryz.underlying245
  a232 := Tryz.isAgg245
  z232 := Tryz.sizeOf245
  v232 := Tryz.zeroValue245
  t233 := Tryz.underlying246
  a233 := Tryz.isAgg246
  z233 := Tryz.sizeOf246
  v233 := Tryz.zeroValue246
  g17 := by kernel_rfl
  g18 := by kernel_rfl
  g19 := by kernel_rfl
  i0 := by kernel_rfl
  i2 := by kernel_rfl
  i3 := by kernel_rfl
  i4 := by kernel_rfl
  i5 := by kernel_rfl
  i9 := by kernel_rfl
  i20 := by kernel_rfl
  i37 := by kernel_rfl
  i46 := by kernel_rfl
  i51 := by kernel_rfl
  i53 := by kernel_rfl
  i171 := by kernel_rfl
  i173 := by kernel_rfl
  i212 := by kernel_rfl
  i232 := by kernel_rfl
  i233 := by kernel_rfl
  m17 := by kernel_rfl
  m18 := by kernel_rfl
  m19 := by kernel_rfl }
end Go.Proofs.YtnjaegeapcijpaaGreatDoor

namespace Go.Proofs.YtnjaegeapcijpaaGreatDoor
open Go.RowKit

theorem below_grow0 (w : World) (k : Nat) (os : Array Obj) : Below w.heap.size w (Go.Sort.grow (w.drewN k) os) :=
  ⟨rfl, rfl, rfl, by simp [Go.Sort.grow, World.drewN], fun b hb => by
    show (w.heap ++ os)[b]? = w.heap[b]?
    rw [Array.getElem?_append_left hb]⟩
theorem itoaI_any (n : Int) (w : World) (h0 : 0 ≤ n) (h1 : n ≤ 99999999) (hT : TenIs w) : Calls Tryz.prog 72 #[.int .i64 n] w fun e w' => e = .returned (.string (ba (Lib.itoa n))) ∧ Below w.heap.size w w' := by
  have h : Calls Tryz.prog 72 #[.int .i64 n] w fun e w' => e = .returned (.string ⟨(Lib.itoa n).toArray⟩) ∧ ∃ k os, w' = Go.Sort.grow (w.drewN k) os := Go.Proofs.Any.strconv_Itoa Tryz.laysM171 n (by omega) (by omega) w hT
  refine h.mono ?_
  rintro _ _ ⟨rfl, k, os, rfl⟩
  exact ⟨rfl, below_grow0 w k os⟩
end Go.Proofs.YtnjaegeapcijpaaGreatDoor

namespace Go.Proofs.YtnjaegeapcijpaaGreatDoor
open Go.RowKit

/-- the reader's box at block b, behind the world w0 that it was made in -/
structure Rd (w0 : World) (b : Nat) (s : Bs) (row : Int) (W : World) : Prop where
  base : Below w0.heap.size w0 W
  lo : w0.heap.size ≤ b
  c0 : W.cell? ⟨b, 0, none⟩ = some (.string (ba s))
  c1 : W.cell? ⟨b, 1, none⟩ = some (.int .i64 row)
  z0 : W.frozen? ⟨b, 0, none⟩ = false
  z1 : W.frozen? ⟨b, 1, none⟩ = false
section
variable {w0 W W' : World} {b : Nat} {s : Bs} {row : Int}
theorem Rd.later (h : Rd w0 b s row W) (hB : Below W.heap.size W W') : Rd w0 b s row W' :=
  ⟨Below.join h.base (Nat.le_refl _) hB, h.lo, cellLater hB h.c0, cellLater hB h.c1, (hB.frozen (ltCell h.c0)).trans h.z0, (hB.frozen (ltCell h.c1)).trans h.z1⟩
theorem Rd.take (h : Rd w0 b s row W) (s' : Bs) : Rd w0 b s' row (W.setCell ⟨b, 0, none⟩ (.string (ba s'))) :=
  ⟨h.base.setCell h.lo _, h.lo, World.cell?_setCell_same _ _ _ h.c0, (cell_set_ne (by omega)).trans h.c1, (World.frozen?_setCell ..).trans h.z0, (World.frozen?_setCell ..).trans h.z1⟩
theorem Rd.next (h : Rd w0 b s row W) (row' : Int) : Rd w0 b s row' (W.setCell ⟨b, 1, none⟩ (.int .i64 row')) :=
  ⟨h.base.setCell h.lo _, h.lo, (cell_set_ne (by omega)).trans h.c0, World.cell?_setCell_same _ _ _ h.c1, (World.frozen?_setCell ..).trans h.z0, (World.frozen?_setCell ..).trans h.z1⟩
theorem Rd.mid {lo hi : Nat} (h : Rd w0 b s row W) (hM : Mid lo hi W W') (hl : b < lo) : Rd w0 b s row W' := by
  have hb := hM.below
  refine ⟨h.base.trans (hb.mono (by have := h.lo; omega)), h.lo, hM.cellBelow hl h.c0, hM.cellBelow hl h.c1, ?_, ?_⟩
  · exact (World.frozen?_of_block (w := W) (w' := W') (a := ⟨b, 0, none⟩) (hb.block b hl)).trans h.z0
  · exact (World.frozen?_of_block (w := W) (w' := W') (a := ⟨b, 1, none⟩) (hb.block b hl)).trans h.z1
end
theorem way_take {w0 W : World} {b : Nat} {s : Bs} {row : Int} (_ : Rd w0 b s row W) (x : Value) (o : Nat) : Mid b (b + 1) W (W.setCell ⟨b, o, none⟩ x) := Mid.set (Nat.le_refl _) (Nat.lt_succ_self _) x
theorem Rd.ofBelow {w0 W W' : World} {b : Nat} {s : Bs} {row : Int} (h : Rd w0 b s row W) (hB : Below W.heap.size W W') : Mid b (b + 1) W W' := Mid.ofBelow hB (Nat.le_of_lt (ltCell h.c0))

/-- what strconv answers where it reads no number -/
def ErrIs (w : World) : Prop := (∃ tp p, w.var? Tryz.prog "strconv.ErrSyntax" = some #[.iface tp p]) ∧ ∃ tp p, w.var? Tryz.prog "strconv.ErrRange" = some #[.iface tp p]
theorem ErrIs.later {w w' : World} (h : ErrIs w) (hB : Below w.heap.size w w') : ErrIs w' := by
  obtain ⟨⟨t, p, h1⟩, t2, p2, h2⟩ := h
  exact ⟨⟨t, p, Go.Joins.var_stays (show Tryz.prog.globalNamed "strconv.ErrSyntax" = some 6 by kernel_rfl) h1 hB (Nat.le_refl _)⟩, t2, p2, Go.Joins.var_stays (show Tryz.prog.globalNamed "strconv.ErrRange" = some 7 by kernel_rfl) h2 hB (Nat.le_refl _)⟩
/-- what the reader leans on, as it lies -/
structure LaidR (w : World) : Prop where
  ten : TenIs w
  err : ErrIs w
  words : WordsIs w
theorem LaidR.later {w w' : World} (h : LaidR w) (hB : Below w.heap.size w w') : LaidR w' := ⟨h.ten.later hB, h.err.later hB, h.words.later hB⟩

theorem atoi_nonneg {l : Bs} (hd : l.all dig = true) {v : Int} (h : Lib.atoiAll l = .ok v) : 0 ≤ v := by
  cases l with
  | nil => simp [Lib.atoiAll] at h
  | cons c r =>
    rw [List.all_cons, Bool.and_eq_true] at hd
    have hc := dig_range hd.1
    unfold Lib.atoiAll at h
    have h45 : ¬ (c.toNat = 45) := by omega
    simp only [h45, if_false, not_false_eq_true, true_and, false_and] at h
    split at h
    · cases h
    · cases h
    · split at h
      · cases h
      · cases h; omega
theorem atoi_ok (l : Bs) (hl : l.length ≤ 1000000) {v : Int} (h : Lib.atoiAll l = .ok v) (W : World) : Calls Tryz.prog 148 #[.string (ba l)] W fun e w' => e = .returned (.tuple #[.int .i64 v, .nilIface]) ∧ Below W.heap.size W w' := by
  have := Any.strconv_Atoi_ok Tryz.laysC172 (ba l) (by rw [ba_size]; omega) v (by rw [ba_list]; exact h) W
  refine this.mono ?_
  rintro _ w' ⟨rfl, rfl | ⟨t, rfl⟩⟩
  · exact ⟨rfl, Below.refl _ _⟩
  · exact ⟨rfl, Lib.bytesWorld_below _ _ _⟩
theorem atoi_err (l : Bs) (hl : l.length ≤ 1000000) (h : Lib.atoiAll l = .«syntax» ∨ Lib.atoiAll l = .range) (W : World) (hE : ErrIs W) : Calls Tryz.prog 148 #[.string (ba l)] W fun e w' => (∃ n t p, e = .returned (.tuple #[.int .i64 n, .iface t p])) ∧ Below W.heap.size W w' := by
  obtain ⟨⟨t1, p1, h1⟩, t2, p2, h2⟩ := hE
  rcases h with h | h
  · have := Any.strconv_Atoi_syntax_var Tryz.laysC172 (ba l) (by rw [ba_size]; omega) (by rw [ba_list]; exact h) t1 p1 W h1
    refine this.mono ?_
    rintro _ w' ⟨N, rfl, _, _, hB⟩
    exact ⟨⟨_, _, _, rfl⟩, hB⟩
  · have := Any.strconv_Atoi_range_var Tryz.laysC172 (ba l) (by rw [ba_size]; omega) (by rw [ba_list]; exact h) t2 p2 W h2
    refine this.mono ?_
    rintro _ w' ⟨N, rfl, _, _, hB⟩
    exact ⟨⟨_, _, _, rfl⟩, hB⟩
end Go.Proofs.YtnjaegeapcijpaaGreatDoor

namespace Go.Proofs.YtnjaegeapcijpaaGreatDoor
open Go.ChangeShapes Go.WideShapes Go.ChangeAt Go.RowKit

def listR : List (String × DataW Unit) := [("math/bits.deBruijn32tab", Rows.laid_math_bits_deBruijn32tab), ("math/bits.deBruijn64tab", Rows.laid_math_bits_deBruijn64tab), ("internal/strconv.uint64pow10", Rows.laid_internal_strconv_uint64pow10), ("unicode/utf8.acceptRanges", Rows.laid_unicode_utf8_acceptRanges), ("errors.errorType", Rows.laid_errors_errorType), ("strconv.ErrRange", Rows.laid_strconv_ErrRange), ("strconv.ErrSyntax", Rows.laid_strconv_ErrSyntax), ("loop.example/stringline/impl.words", Rows.laid_loop_example_stringline_impl_words), ("unicode/utf8.first", Rows.laid_unicode_utf8_first)]
theorem listR_parts {W : World} (h : laidMetH Tryz.prog listR W) : laidMet Tryz.prog [("math/bits.deBruijn32tab", Rows.laid_math_bits_deBruijn32tab), ("math/bits.deBruijn64tab", Rows.laid_math_bits_deBruijn64tab), ("internal/strconv.uint64pow10", Rows.laid_internal_strconv_uint64pow10), ("unicode/utf8.acceptRanges", Rows.laid_unicode_utf8_acceptRanges), ("strconv.ErrRange", Rows.laid_strconv_ErrRange), ("strconv.ErrSyntax", Rows.laid_strconv_ErrSyntax), ("loop.example/stringline/impl.words", Rows.laid_loop_example_stringline_impl_words), ("unicode/utf8.first", Rows.laid_unicode_utf8_first)] W ∧ handlesMet Tryz.prog [("errors.errorType", Rows.laid_errors_errorType)] W := h
theorem words_of_laid {rest : List (String × DataW Unit)} {W : World} (h : laidMet Tryz.prog (("loop.example/stringline/impl.words", Rows.laid_loop_example_stringline_impl_words) :: rest) W) : WordsIs W := by
  obtain ⟨ps, ⟨g', t', cs, fuel, p, q, hg', ht', hvar, hd, _, _⟩, _⟩ := h
  have hg : Tryz.prog.globalNamed "loop.example/stringline/impl.words" = some 0 := by kernel_rfl
  have hty : (Tryz.prog.globals[0]?).map (·.type) = some 120 := by kernel_rfl
  obtain rfl := Option.some.inj (hg.symm.trans hg')
  obtain rfl := Option.some.inj (hty.symm.trans ht')
  intro k hk
  obtain ⟨b, off, cap, h1, h2⟩ := words_of_trod hd k hk
  refine ⟨b, off, cap, ?_, h2⟩
  rw [World.var?_cell hg hvar k, ← h1]
  simp


theorem Tryz.gER : Tryz.prog.globalNamed "strconv.ErrRange" = some 7 := by kernel_rfl
theorem Tryz.gERType : (Tryz.prog.globals[7]?).map (·.type) = some 131 := by kernel_rfl
theorem Tryz.gES : Tryz.prog.globalNamed "strconv.ErrSyntax" = some 6 := by kernel_rfl
theorem Tryz.gESType : (Tryz.prog.globals[6]?).map (·.type) = some 131 := by kernel_rfl
theorem Tryz.cellsES : Tryz.prog.cellsOf 264 = 1 := by kernel_rfl
theorem Tryz.cellsStr : Tryz.prog.cellsOf 9 = 1 := by kernel_rfl
theorem Tryz.star : "*" ++ "errors.errorString" = "*errors.errorString" := by decide
theorem Tryz.rowES (u : TypeId) (h : Tryz.prog.typeName? 3 u = some "*errors.errorString") : u = 262 :=
  typeName_ptr_named (nm := "errors.errorString") (by rw [Tryz.star]; kernel_rfl) (by kernel_rfl) (by decide) u (by rw [Tryz.star]; exact h)
theorem errs_of_laid {rest : List (String × DataW Unit)} {W : World} (h : laidMet Tryz.prog (("strconv.ErrRange", Rows.laid_strconv_ErrRange) :: ("strconv.ErrSyntax", Rows.laid_strconv_ErrSyntax) :: rest) W) : ErrIs W := by
  obtain ⟨a1, s1, hv1, -, -, -⟩ := laid_sentinel h Tryz.gER Tryz.gERType Tryz.underlying131 Tryz.rowES Tryz.underlying262 Tryz.underlying264 rfl rfl Tryz.underlying9 Tryz.cellsES Tryz.cellsStr
  obtain ⟨a0, s0, hv0, -, -, -⟩ := laid_sentinel (laidMet_tail h) Tryz.gES Tryz.gESType Tryz.underlying131 Tryz.rowES Tryz.underlying262 Tryz.underlying264 rfl rfl Tryz.underlying9 Tryz.cellsES Tryz.cellsStr
  exact ⟨⟨_, _, hv0⟩, ⟨_, _, hv1⟩⟩
theorem laidR_of {W : World} (h : laidMetH Tryz.prog listR W) : LaidR W := by
  have hp := (listR_parts h).1
  exact ⟨ten_of_laid (laidMet_tail (laidMet_tail hp)), errs_of_laid (laidMet_tail (laidMet_tail (laidMet_tail (laidMet_tail hp)))), words_of_laid (laidMet_tail (laidMet_tail (laidMet_tail (laidMet_tail (laidMet_tail (laidMet_tail hp))))))⟩

/-- a world that meets the condition -/
noncomputable def laidWorldR (os : Os) : World :=
  let w0 := World.holding Tryz.prog os ⟨#[.cells (strCells (wordsOf 0)).toArray 9, .cells (strCells (wordsOf 1)).toArray 9, .cells (strCells (wordsOf 2)).toArray 9, .cells (strCells (wordsOf 3)).toArray 9, .cells #[.string ⟨#[118, 97, 108, 117, 101, 32, 111, 117, 116, 32, 111, 102, 32, 114, 97, 110, 103, 101]⟩] 264, .cells #[.string ⟨#[105, 110, 118, 97, 108, 105, 100, 32, 115, 121, 110, 116, 97, 120]⟩] 264], #[], []⟩
  { w0 with heap := layVar (layVar (layVar (layVar (layVar (layVar (layVar (layVar (layVar w0.heap 1 #[.iface 194 (.agg #[.pointer (some ⟨10, 131, none⟩)])]) 4 (dataCells Rows.laid_math_bits_deBruijn32tab)) 5 (dataCells Rows.laid_math_bits_deBruijn64tab)) 2 (dataCells Rows.laid_internal_strconv_uint64pow10)) 9 (dataCells Rows.laid_unicode_utf8_acceptRanges)) 8 (dataCells Rows.laid_unicode_utf8_first)) 0 #[.slice (some ⟨lowB, 0, none⟩) 1 1, .slice (some ⟨lowB + 1, 0, none⟩) 1 1, .slice (some ⟨lowB + 2, 0, none⟩) 4 4, .slice (some ⟨lowB + 3, 0, none⟩) 3 3]) 7 #[.iface 262 (.pointer (some ⟨lowB + 4, 0, none⟩))]) 6 #[.iface 262 (.pointer (some ⟨lowB + 5, 0, none⟩))] }
theorem laidWorldR_met (os : Os) (args : Array Value) : laidMetH Tryz.prog listR ((laidWorldR os).forCall (fun _ _ => 0) ⟨#[], args, []⟩).memory :=
  laidMetH_of_parts (laidMet_of_run' 8 (by kernel_rfl) (by kernel_rfl)) (by kernel_rfl)
end Go.Proofs.YtnjaegeapcijpaaGreatDoor

namespace Go.Proofs.YtnjaegeapcijpaaGreatDoor
open Go.RowKit

set_option maxRecDepth 20000 in
set_option maxHeartbeats 8000000 in
theorem wLine_same (a b : Option Addr) (len cap cap2 : Nat) (g : Nat → Int) (gap : Int) (a' b' : Option Addr) (np cap' cap2' : Nat) (f : Nat → TrainD) (w : World) (hl : len ≤ 1048576) (hl' : np ≤ 1048576) (hml : ∀ j, j < np → (f j).nl ≤ 1048576)
    (hI : IsInts 0 w.heap.size w a len g) (hJ : IsInts 0 w.heap.size w b len g) (hT : IsTrains 0 w.heap.size w a' np f) (hU : IsTrains 0 w.heap.size w b' np f) :
    Calls Tryz.prog 16 #[.agg #[.slice a len cap, .int .i64 gap, .slice a' np cap'], .agg #[.slice b len cap2, .int .i64 gap, .slice b' np cap2']] w fun e w' => e = .returned (.bool true) ∧ Below w.heap.size w w' := by
  have hA := b2 w (.cells #[.slice a len cap, .int .i64 gap, .slice a' np cap'] 26) (.cells #[.slice b len cap2, .int .i64 gap, .slice b' np cap2'] 26)
  obtain ⟨n0, n1, n2⟩ := new3 w (.slice a len cap) (.int .i64 gap) (.slice a' np cap') 26
  have x0 := cellLater (b1 _ (.cells #[.slice b len cap2, .int .i64 gap, .slice b' np cap2'] 26)) n0
  have x1 := cellLater (b1 _ (.cells #[.slice b len cap2, .int .i64 gap, .slice b' np cap2'] 26)) n1
  have x2 := cellLater (b1 _ (.cells #[.slice b len cap2, .int .i64 gap, .slice b' np cap2'] 26)) n2
  obtain ⟨y0, y1, y2⟩ := new3 (w.alloc (.cells #[.slice a len cap, .int .i64 gap, .slice a' np cap'] 26)) (.slice b len cap2) (.int .i64 gap) (.slice b' np cap2') 26
  rw [World.size_alloc] at y0 y1 y2
  clear n0 n1 n2
  go_enter Tryz.func16, Tryz.ntmps16
  obtain ⟨W, hW⟩ : ∃ W, W = (w.alloc (.cells #[.slice a len cap, .int .i64 gap, .slice a' np cap'] 26)).alloc (.cells #[.slice b len cap2, .int .i64 gap, .slice b' np cap2'] 26) := ⟨_, rfl⟩
  rw [← hW] at hA x0 x1 x2 y0 y1 y2
  have hI1 := hI.grow hA
  have hJ1 := hJ.grow hA
  have hT1 := hT.grow hA
  have hU1 := hU.grow hA
  go_wp2
  rw [← hW]
  clear hW
  go_loopw [36] (fun cc wr => ∃ i : Nat, i ≤ len ∧ cc = .int .i64 i ∧ Below W.heap.size W wr) (fun cc _ => len - (intOf cc).toNat)
  case atStart => exact ⟨0, Nat.zero_le _, rfl, Below.refl _ _⟩
  case round =>
    obtain ⟨i, hi, rfl, hB⟩ := hrel
    by_cases hlt : i < len
    · have hlt' : (i : Int) < (len : Int) := by omega
      have hi0 : (0 : Int) ≤ (i : Int) := by omega
      obtain ⟨bp, op, rfl, _, _, p0⟩ := hI1 i hlt
      obtain ⟨bq, oq, rfl, _, _, q0⟩ := hJ1 i hlt
      have x3 := cellLater hB x0
      have y3 := cellLater hB y0
      have p1 := cellLater hB p0
      have q1 := cellLater hB q0
      clear x0 x1 x2 y0 y1 y2 p0 q0 hI1 hJ1 hT1 hU1 hI hJ hT hU
      go_wp2
      go_region_held3 (fun w' => w'.cell? ⟨w.heap.size, 0, none⟩ = some (.slice (some ⟨bp, op, none⟩) len cap) ∧ w'.cell? ⟨w.heap.size + 1, 0, none⟩ = some (.slice (some ⟨bq, oq, none⟩) len cap2) ∧ w'.cell? ⟨bp, op + i, none⟩ = some (.int .i64 (g i)) ∧ w'.cell? ⟨bq, oq + i, none⟩ = some (.int .i64 (g i))) (go_keep) (fail)
      go_wp2
      go_roundw
      case rel => exact ⟨i + 1, by omega, rfl, Below.join hB (Nat.le_refl _) (Below.refl _ _).drew⟩
      case measure => simp only [intOf]; omega
    · obtain rfl : i = len := by omega
      have x3 := cellLater hB x2
      clear hI1 hJ1
      go_wp2
      clear x3
      go_loopw [54] (fun cc wr => ∃ i : Nat, i ≤ np ∧ cc = .int .i64 i ∧ Below W.heap.size W wr) (fun cc _ => np - (intOf cc).toNat)
      case atStart => exact ⟨0, Nat.zero_le _, rfl, hB⟩
      case round =>
        clear hB
        obtain ⟨j, hj, rfl, hB⟩ := hrel
        by_cases hlt : j < np
        · have hlt' : (j : Int) < (np : Int) := by omega
          have hj0 : (0 : Int) ≤ (j : Int) := by omega
          obtain ⟨bp, op, lp, lc, rfl, _, _, p0, p1, p2, p3, p4, hin, hm1⟩ := hT1 j hlt
          obtain ⟨bq, oq, lq, lqc, rfl, _, _, q0, q1, q2, q3, q4, hjn, hm2⟩ := hU1 j hlt
          have x3 := cellLater hB x2
          have y3 := cellLater hB y2
          replace p0 := cellLater hB p0
          replace p1 := cellLater hB p1
          replace p2 := cellLater hB p2
          replace p3 := cellLater hB p3
          replace p4 := cellLater hB p4
          replace q0 := cellLater hB q0
          replace q1 := cellLater hB q1
          replace q2 := cellLater hB q2
          replace q3 := cellLater hB q3
          replace q4 := cellLater hB q4
          have hmi := hml j hlt
          have hV := b2 wr (.cells #[.int .i64 (f j).frm, .int .i64 (f j).ready, .int .i64 (f j).due, .int .i64 (f j).weight, .slice lp (f j).nl lc] 71) (.cells #[.int .i64 (f j).frm, .int .i64 (f j).ready, .int .i64 (f j).due, .int .i64 (f j).weight, .slice lq (f j).nl lqc] 71)
          have u4 : ((wr.alloc (.cells #[.int .i64 (f j).frm, .int .i64 (f j).ready, .int .i64 (f j).due, .int .i64 (f j).weight, .slice lp (f j).nl lc] 71)).alloc (.cells #[.int .i64 (f j).frm, .int .i64 (f j).ready, .int .i64 (f j).due, .int .i64 (f j).weight, .slice lq (f j).nl lqc] 71)).cell? ⟨wr.heap.size, 4, none⟩ = some (.slice lp (f j).nl lc) := cellLater (b1 _ _) (by simp)
          have v4 : ((wr.alloc (.cells #[.int .i64 (f j).frm, .int .i64 (f j).ready, .int .i64 (f j).due, .int .i64 (f j).weight, .slice lp (f j).nl lc] 71)).alloc (.cells #[.int .i64 (f j).frm, .int .i64 (f j).ready, .int .i64 (f j).due, .int .i64 (f j).weight, .slice lq (f j).nl lqc] 71)).cell? ⟨wr.heap.size + 1, 4, none⟩ = some (.slice lq (f j).nl lqc) := by
            rw [show wr.heap.size + 1 = (wr.alloc (.cells #[.int .i64 (f j).frm, .int .i64 (f j).ready, .int .i64 (f j).due, .int .i64 (f j).weight, .slice lp (f j).nl lc] 71)).heap.size from (World.size_alloc ..).symm]
            simp
          obtain ⟨V, hVe⟩ : ∃ V, V = (wr.alloc (.cells #[.int .i64 (f j).frm, .int .i64 (f j).ready, .int .i64 (f j).due, .int .i64 (f j).weight, .slice lp (f j).nl lc] 71)).alloc (.cells #[.int .i64 (f j).frm, .int .i64 (f j).ready, .int .i64 (f j).due, .int .i64 (f j).weight, .slice lq (f j).nl lqc] 71) := ⟨_, rfl⟩
          rw [← hVe] at hV u4 v4
          have hX := b1 wr (.cells #[.int .i64 (f j).frm, .int .i64 (f j).ready, .int .i64 (f j).due, .int .i64 (f j).weight, .slice lp (f j).nl lc] 71)
          replace y3 := cellLater hX y3
          replace q0 := cellLater hX q0
          replace q1 := cellLater hX q1
          replace q2 := cellLater hX q2
          replace q3 := cellLater hX q3
          replace q4 := cellLater hX q4
          have hBV := Below.join hB (Nat.le_refl _) hV
          go_wp2
          rw [← hVe]
          clear hVe hX x3 y3 p0 p1 p2 p3 p4 q0 q1 q2 q3 q4
          generalize wr.heap.size = wv at u4 v4 ⊢
          go_loopw [105] (fun cc wr => ∃ m : Nat, m ≤ (f j).nl ∧ cc = .int .i64 m ∧ Below V.heap.size V wr) (fun cc _ => (f j).nl - (intOf cc).toNat)
          case atStart => exact ⟨0, Nat.zero_le _, rfl, Below.refl _ _⟩
          case round =>
            obtain ⟨m, hm, rfl, hB3⟩ := hrel
            have hBW := Below.join hBV (Nat.le_refl _) hB3
            by_cases hmlt : m < (f j).nl
            · have hmlt' : (m : Int) < ((f j).nl : Int) := by omega
              have hm0 : (0 : Int) ≤ (m : Int) := by omega
              obtain ⟨b3, o3, rfl, _, _, r0, r1, r2⟩ := hin m hmlt
              obtain ⟨b4, o4, rfl, _, _, s0, s1, s2⟩ := hjn m hmlt
              replace r0 := cellLater hBW r0
              replace r1 := cellLater hBW r1
              replace r2 := cellLater hBW r2
              replace s0 := cellLater hBW s0
              replace s1 := cellLater hBW s1
              replace s2 := cellLater hBW s2
              have u5 := cellLater hB3 u4
              have v5 := cellLater hB3 v4
              clear u4 v4 hin hjn
              go_wp2
              go_region_held3 (fun w' => w'.cell? ⟨wv, 4, none⟩ = some (.slice (some ⟨b3, o3, none⟩) (f j).nl lc) ∧ w'.cell? ⟨wv + 1, 4, none⟩ = some (.slice (some ⟨b4, o4, none⟩) (f j).nl lqc) ∧ w'.cell? ⟨b3, o3 + m * 3, none⟩ = some (.int .i64 ((f j).leg m).to) ∧ w'.cell? ⟨b3, o3 + m * 3 + 1, none⟩ = some (.int .i64 ((f j).leg m).run) ∧ w'.cell? ⟨b3, o3 + m * 3 + 2, none⟩ = some (.int .i64 ((f j).leg m).stay) ∧ w'.cell? ⟨b4, o4 + m * 3, none⟩ = some (.int .i64 ((f j).leg m).to) ∧ w'.cell? ⟨b4, o4 + m * 3 + 1, none⟩ = some (.int .i64 ((f j).leg m).run) ∧ w'.cell? ⟨b4, o4 + m * 3 + 2, none⟩ = some (.int .i64 ((f j).leg m).stay)) (first | exact ⟨u5, v5, r0, r1, r2, s0, s1, s2⟩ | go_keep) (fail)
              go_wp2
              go_roundw
              case rel => exact ⟨m + 1, by omega, rfl, Below.join hB3 (Nat.le_refl _) (Below.refl _ _).drew⟩
              case measure => simp only [intOf]; omega
            · obtain rfl : m = (f j).nl := by omega
              go_wp2
              go_roundw
              case rel => exact ⟨j + 1, by omega, rfl, hBW⟩
              case measure => simp only [intOf]; omega
        · obtain rfl : j = np := by omega
          go_wp2
          go_ret
          exact ⟨rfl, Below.join hA (Nat.le_refl _) hB⟩
end Go.Proofs.YtnjaegeapcijpaaGreatDoor

namespace Go.Proofs.YtnjaegeapcijpaaGreatDoor
open Go.RowKit

/-- numbers, each behind a blank, at most so many, and the row's end -/
def trB : Nat → Bs → Option (List Int × Bs)
  | 0, s => (takeB [10] s).map fun r => ([], r)
  | k + 1, s => if [32].isPrefixOf s then (numB (s.drop 1)).bind fun x => (trB k x.2).map fun y => (x.1 ++ y.1, y.2) else (takeB [10] s).map fun r => ([], r)
/-- words with a number behind each -/
def prB : Bool → List Bs → Bs → Option (List Int × Bs)
  | _, [], s => some ([], s)
  | f, w :: ws, s => (if f then some s else takeB [32] s).bind fun s1 => (takeB (w ++ [32]) s1).bind fun s2 => (numB s2).bind fun x => (prB false ws x.2).map fun y => (x.1 ++ y.1, y.2)
def tracksB (s : Bs) : Option (List Int × Bs) := (prB true (wordsOf 0) s).bind fun x => (trB 38 x.2).map fun y => (x.1 ++ y.1, y.2)
def numbersB (k : Nat) (s : Bs) : Option (List Int × Bs) := (prB true (wordsOf k) s).bind fun x => (takeB [10] x.2).map fun r => (x.1, r)
def toksOf : List Bs → List Tok
  | [] => []
  | w :: ws => .word w :: .num :: toksOf ws
def trackToks (n : Nat) : List Tok := .word (wordsOf 0)[0]! :: List.replicate (max 1 (min n 40 - 1)) .num
/-- what a line's words say, where they are as a kind of row has them -/
def tracksM (x : Bs) : Option (List Int) := likeB (trackToks (cutB x).length) (cutB x)
def numsM (k : Nat) (x : Bs) : Option (List Int) := likeB (toksOf (wordsOf k)) (cutB x)

instance (x : Bs) : Decidable (Free x) := inferInstanceAs (Decidable (∀ b ∈ x, b ≠ 32 ∧ b ≠ 10))
theorem takeB_app (p q s : Bs) : takeB (p ++ q) s = (takeB p s).bind (takeB q) := by
  unfold takeB
  by_cases h : p <+: s
  · obtain ⟨t, rfl⟩ := h
    have hp : p.isPrefixOf (p ++ t) = true := List.isPrefixOf_iff_prefix.2 (List.prefix_append _ _)
    rw [if_pos hp, List.drop_left]
    show _ = (if q.isPrefixOf t = true then some (t.drop q.length) else none)
    by_cases hq : q <+: t
    · obtain ⟨u, rfl⟩ := hq
      have h1 : q.isPrefixOf (q ++ u) = true := List.isPrefixOf_iff_prefix.2 (List.prefix_append _ _)
      have h2 : (p ++ q).isPrefixOf (p ++ (q ++ u)) = true := List.isPrefixOf_iff_prefix.2 (by rw [← List.append_assoc]; exact List.prefix_append _ _)
      rw [if_pos h1, if_pos h2, List.drop_left, ← List.append_assoc, List.drop_left]
    · have h1 : ¬ (q.isPrefixOf t = true) := fun e => hq (List.isPrefixOf_iff_prefix.1 e)
      have h2 : ¬ ((p ++ q).isPrefixOf (p ++ t) = true) := fun e => hq ((List.prefix_append_right_inj p).1 (List.isPrefixOf_iff_prefix.1 e))
      rw [if_neg h1, if_neg h2]
  · have hp : ¬ (p.isPrefixOf s = true) := fun e => h (List.isPrefixOf_iff_prefix.1 e)
    have h2 : ¬ ((p ++ q).isPrefixOf s = true) := fun e => h (List.IsPrefix.trans (List.prefix_append _ _) (List.isPrefixOf_iff_prefix.1 e))
    rw [if_neg hp, if_neg h2]
    rfl

theorem prB_rest (ws : List Bs) (s : Bs) : ((prB false ws s).bind fun x => (takeB [10] x.2).map fun r => (x.1, r)) = restB (toksOf ws) s := by
  induction ws generalizing s with
  | nil => simp [prB, toksOf, restB]
  | cons w ws ih =>
    simp only [prB, toksOf, restB, takeB_app, tokB_word, tokB_num]
    cases h1 : takeB [32] s with
    | none => simp
    | some s1 =>
      cases h2 : takeB w s1 with
      | none => simp [h2]
      | some s2 =>
        cases h3 : takeB [32] s2 with
        | none => simp [h2, h3]
        | some s3 =>
          cases h4 : numB s3 with
          | none => simp [h2, h3, h4]
          | some x =>
            have h5 := ih x.2
            simp only [h2, h3, h4, Option.bind_some, Option.map_some, Bool.false_eq_true, if_false, List.nil_append]
            rw [← h5]
            cases h6 : prB false ws x.2 with
            | none => simp
            | some y => cases h7 : takeB [10] y.2 <;> simp [h7]
theorem numbersB_row (k : Nat) (s : Bs) : numbersB k s = rowB (toksOf (wordsOf k)) s := by
  have hk : ∃ w ws, wordsOf k = w :: ws := by
    match k with
    | 0 => exact ⟨_, _, rfl⟩
    | 1 => exact ⟨_, _, rfl⟩
    | 2 => exact ⟨_, _, rfl⟩
    | _ + 3 => exact ⟨_, _, rfl⟩
  obtain ⟨w, ws, hw⟩ := hk
  unfold numbersB
  rw [hw]
  have h := prB_rest (w :: ws) (32 :: s)
  have e : prB false (w :: ws) (32 :: s) = prB true (w :: ws) s := by simp [prB, takeB_one]
  rw [e] at h
  rw [h, toksOf, restB, takeB_one, if_pos rfl]
  rfl

theorem trB_tail (k : Nat) (xs : List Bs) (r : Bs) (hx : ∀ x ∈ xs, Free x) : trB k (tailT xs r) = (likeB (List.replicate (min xs.length k) .num) xs).map fun a => (a, r) := by
  induction k generalizing xs with
  | zero =>
    cases xs with
    | nil => simp [trB, tailT, takeB_one, likeB]
    | cons x xs => simp [trB, tailT, takeB_one, likeB]
  | succ k ih =>
    cases xs with
    | nil => simp [trB, tailT, takeB_one, likeB]
    | cons x xs =>
      have h1 := ih xs (fun x h => hx x (List.mem_cons_of_mem _ h))
      obtain ⟨e, s, hs, he⟩ := tailT_head xs r
      have hm : min (x :: xs).length (k + 1) = min xs.length k + 1 := by simp
      rw [hm, List.replicate_succ, likeB, tailT, trB, hs]
      rw [hs] at h1
      simp only [List.isPrefixOf, BEq.rfl, Bool.and_true, if_true, List.drop_succ_cons, List.drop_zero]
      have ht := tokB_at (t := .num) (r := s) trivial (hx x (List.mem_cons_self ..)) he
      rw [tokB_num] at ht
      rcases ht with ⟨a, h2, h3⟩ | ⟨h2, h3 | ⟨a, c, q, h3, hc⟩⟩
      · rw [h2, h3]
        show (trB k (e :: s)).map _ = ((likeB _ xs).map _).map _
        rw [h1]
        cases likeB (List.replicate (min xs.length k) Tok.num) xs <;> rfl
      · rw [h2, h3]; rfl
      · rw [h2, h3]
        show (trB k (c :: q)).map _ = none
        cases k with
        | zero => simp [trB, takeB_one, hc.2.symm]
        | succ k => simp [trB, takeB_one, hc.2.symm, hc.1.symm]

theorem tracksB_line (l r : Bs) (h : ∀ b ∈ l, b ≠ 10) : tracksB (l ++ 10 :: r) = (tracksM l).map fun a => (a, r) := by
  obtain ⟨x, xs, hc, he, hf⟩ := cutB_line l r h
  unfold tracksM tracksB
  rw [hc, he]
  have hw : wordsOf 0 = [(wordsOf 0)[0]!] := rfl
  have hg : Free (wordsOf 0)[0]! := by decide
  generalize (wordsOf 0)[0]! = W at hw hg
  rw [hw]
  obtain ⟨e, s, hs, hes⟩ := tailT_head xs r
  have ht := tokB_at (t := .word W) (r := s) hg (hf x (List.mem_cons_self ..)) hes
  have hfx : ∀ y ∈ xs, Free y := fun y hy => hf y (List.mem_cons_of_mem _ hy)
  unfold trackToks
  rw [show (wordsOf 0)[0]! = W from by rw [hw]; rfl]
  simp only [prB, takeB_app, if_true, Option.bind_some, likeB]
  rw [tokB_word] at ht
  rw [hs]
  rcases ht with ⟨a, h2, h3⟩ | ⟨h2, h3 | ⟨a, c, q, h3, hcq⟩⟩
  · rw [h2]
    cases h4 : takeB W (x ++ e :: s) with
    | none => rw [h4] at h3; cases h3
    | some q =>
      rw [h4] at h3
      simp only [Option.map_some, Option.some.injEq, Prod.mk.injEq] at h3
      obtain ⟨rfl, rfl⟩ := h3
      rw [← hs]
      cases xs with
      | nil => simp [tailT, takeB_one, likeB]
      | cons y ys =>
        have hm : max 1 (min (x :: y :: ys).length 40 - 1) = min ys.length 38 + 1 := by simp only [List.length_cons]; omega
        rw [hm, List.replicate_succ, likeB, tailT]
        simp only [Option.bind_some, takeB_one, if_true, List.nil_append]
        have h1 := trB_tail 38 ys r (fun z hz => hfx z (List.mem_cons_of_mem _ hz))
        obtain ⟨e', s', hs', he'⟩ := tailT_head ys r
        rw [hs'] at h1 ⊢
        have ht := tokB_at (t := .num) (r := s') trivial (hfx y (List.mem_cons_self ..)) he'
        rw [tokB_num] at ht
        rcases ht with ⟨a, h2, h3⟩ | ⟨h2, h3 | ⟨a, c, q, h3, hc⟩⟩
        · rw [h2, h3]
          simp only [Option.bind_some, Option.map_some, List.append_nil]
          rw [h1]
          cases likeB (List.replicate (min ys.length 38) Tok.num) ys <;> rfl
        · rw [h2, h3]; rfl
        · rw [h2, h3]
          simp only [Option.bind_some, Option.map_some]
          simp [trB, takeB_one, hc.2.symm, hc.1.symm]
  · rw [h2]
    cases h4 : takeB W (x ++ e :: s) with
    | none => rfl
    | some q => rw [h4] at h3; cases h3
  · rw [h2]
    cases h4 : takeB W (x ++ e :: s) with
    | none => rfl
    | some q' =>
      rw [h4] at h3
      simp only [Option.map_some, Option.some.injEq, Prod.mk.injEq] at h3
      obtain ⟨_, rfl⟩ := h3
      simp [takeB_one, hcq.1.symm]

theorem trB_newline {k : Nat} {s r : Bs} {a : List Int} (h : trB k s = some (a, r)) : 10 ∈ s := by
  induction k generalizing s a with
  | zero =>
    unfold trB at h
    cases e : takeB [10] s with
    | none => rw [e] at h; cases h
    | some q => rw [takeB_sub e]; simp
  | succ k ih =>
    unfold trB at h
    split at h
    · cases e2 : numB (s.drop 1) with
      | none => rw [e2] at h; cases h
      | some x =>
        obtain ⟨b, q2⟩ := x
        rw [e2, Option.bind_some] at h
        cases e3 : trB k q2 with
        | none => simp [e3] at h
        | some y =>
          obtain ⟨y1, y2⟩ := y
          simp [e3] at h
          obtain ⟨p, hp⟩ := tokB_sub (t := .num) e2
          have := ih (s := q2) (a := y1) (by rw [e3, h.2])
          have hm : 10 ∈ s.drop 1 := by rw [hp]; simp [this]
          exact List.mem_of_mem_drop hm
    · cases e : takeB [10] s with
      | none => rw [e] at h; cases h
      | some q => rw [takeB_sub e]; simp
theorem tracksB_none (s : Bs) (h : 10 ∉ s) : tracksB s = none := by
  unfold tracksB
  have hw : wordsOf 0 = [(wordsOf 0)[0]!] := rfl
  generalize (wordsOf 0)[0]! = W at hw
  rw [hw]
  simp only [prB, if_true, Option.bind_some]
  cases h4 : takeB (W ++ [32]) s with
  | none => rfl
  | some q =>
    cases h5 : numB q with
    | none => simp [h5]
    | some x =>
      obtain ⟨b, q2⟩ := x
      obtain ⟨p, hp⟩ := tokB_sub (t := .num) h5
      cases h6 : trB 38 q2 with
      | none => simp [h5, h6]
      | some y =>
        have := trB_newline h6
        exact absurd (by rw [takeB_sub h4, hp]; simp [this]) h

/-- lines, and what stands behind the last newline -/
def unl : List Bs → Bs → Bs
  | [], r => r
  | x :: xs, r => x ++ 10 :: unl xs r
def cutN : Bs → List Bs × Bs
  | [] => ([], [])
  | b :: t => if b = 10 then ([] :: (cutN t).1, (cutN t).2) else match (cutN t).1 with
    | [] => ([], b :: (cutN t).2)
    | x :: xs => ((b :: x) :: xs, (cutN t).2)
theorem cutN_all (s : Bs) : unl (cutN s).1 (cutN s).2 = s ∧ 10 ∉ (cutN s).2 ∧ ∀ x ∈ (cutN s).1, ∀ b ∈ x, b ≠ 10 := by
  induction s with
  | nil => exact ⟨rfl, by simp [cutN], by simp [cutN]⟩
  | cons b t ih =>
    obtain ⟨h1, h2, h3⟩ := ih
    by_cases hb : b = 10
    · subst hb
      refine ⟨by simp [cutN, unl, h1], by simp [cutN, h2], ?_⟩
      simp only [cutN, if_true, List.mem_cons, forall_eq_or_imp]
      exact ⟨by simp, h3⟩
    · cases hx : (cutN t).1 with
      | nil =>
        rw [hx] at h1
        simp only [cutN, hb, if_false, hx]
        refine ⟨by simp only [unl] at h1 ⊢; rw [h1], ?_, by simp⟩
        simp only [List.mem_cons, not_or]
        exact ⟨fun e => hb e.symm, h2⟩
      | cons x xs =>
        rw [hx] at h1 h3
        simp only [cutN, hb, if_false, hx]
        refine ⟨by simp only [unl, List.cons_append] at h1 ⊢; rw [h1], h2, ?_⟩
        intro y hy c hc
        rcases List.mem_cons.1 hy with rfl | hy
        · rcases List.mem_cons.1 hc with rfl | hc
          · exact hb
          · exact h3 x (List.mem_cons_self ..) c hc
        · exact h3 y (List.mem_cons_of_mem _ hy) c hc
theorem unl_length (xs : List Bs) (r : Bs) : xs.length + r.length ≤ (unl xs r).length := by
  induction xs with
  | nil => simp [unl]
  | cons x xs ih => simp only [unl, List.length_cons, List.length_append]; omega

structure TrL where
  frm : Int
  ready : Int
  due : Int
  weight : Int
  legs : List LegD
structure LnL where
  tracks : List Int
  gap : Int
  trains : List TrL
def nilL : LnL := ⟨[], 0, []⟩
def trL (a : List Int) : TrL := ⟨a.getD 0 0, a.getD 1 0, a.getD 2 0, a.getD 3 0, []⟩
def legL (a : List Int) : LegD := ⟨a.getD 0 0, a.getD 1 0, a.getD 2 0⟩
def TrL.add (t : TrL) (g : LegD) : TrL := { t with legs := t.legs ++ [g] }
def addLeg (ts : List TrL) (g : LegD) : List TrL := match ts.getLast? with
  | none => []
  | some t => ts.dropLast ++ [t.add g]
theorem addLeg_snoc (ts : List TrL) (t : TrL) (g : LegD) : addLeg (ts ++ [t]) g = ts ++ [t.add g] := by simp [addLeg]
/-- a line of a text, by its number -/
def takeM (l : LnL) (x : Bs) (n : Nat) : Option LnL :=
  if n = 0 then (tracksM x).map fun a => { l with tracks := a }
  else if n = 1 then (numsM 1 x).map fun a => { l with gap := a.getD 0 0 }
  else if (cutB x).head? = some (wordsOf 2)[0]! then (numsM 2 x).map fun a => { l with trains := l.trains ++ [trL a] }
  else (numsM 3 x).bind fun a => if l.trains = [] then none else some { l with trains := addLeg l.trains (legL a) }
def goM : LnL → Nat → List Bs → Bs → Sum LnL Nat
  | l, n, [], r => if r ≠ [] ∨ n < 2 then .inr (n + 1) else .inl l
  | l, n, x :: xs, r => match takeM l x n with
    | none => .inr (n + 1)
    | some l' => goM l' (n + 1) xs r

theorem likeB_head {w : Bs} {ts : List Tok} {c : List Bs} {a : List Int} (h : likeB (.word w :: ts) c = some a) : c.head? = some w := by
  cases c with
  | nil => simp [likeB] at h
  | cons x xs =>
    simp only [likeB, tokOk_word] at h
    by_cases e : x = w
    · rw [e]; rfl
    · simp [e] at h
theorem cutB_head (x : Bs) {w : Bs} (h : (cutB x).head? = some w) : w <+: x := by
  induction x generalizing w with
  | nil => simp only [cutB, List.head?_cons, Option.some.injEq] at h; subst h; exact List.prefix_refl _
  | cons b t ih =>
    unfold cutB at h
    split at h
    · simp only [List.head?_cons, Option.some.injEq] at h; subst h; exact List.nil_prefix
    · split at h
      · rename_i y ys hc
        simp only [List.head?_cons, Option.some.injEq] at h
        subst h
        exact (List.cons_prefix_cons).2 ⟨rfl, ih (by rw [hc]; rfl)⟩
      · simp only [List.head?_cons, Option.some.injEq] at h; subst h; exact (List.cons_prefix_cons).2 ⟨rfl, List.nil_prefix⟩

/-- the lines left, and what is read -/
structure Left (s : Bs) (l : LnL) (n : Nat) (xs : List Bs) (r : Bs) : Prop where
  text : s = unl xs r
  rest : 10 ∉ r
  lines : ∀ x ∈ xs, ∀ b ∈ x, b ≠ 10
theorem Left.tail {s : Bs} {l l' : LnL} {n : Nat} {x : Bs} {xs : List Bs} {r : Bs} (h : Left s l n (x :: xs) r) : Left (unl xs r) l' (n + 1) xs r := ⟨rfl, h.rest, fun y hy => h.lines y (List.mem_cons_of_mem _ hy)⟩

theorem tracks_step {s : Bs} {l : LnL} {xs : List Bs} {r : Bs} (h : Left s l 0 xs r) :
    (tracksB s = none ∧ goM l 0 xs r = .inr 1) ∨ ∃ a s' xs', tracksB s = some (a, s') ∧ xs.length = xs'.length + 1 ∧ Left s' { l with tracks := a } 1 xs' r ∧ goM l 0 xs r = goM { l with tracks := a } 1 xs' r := by
  cases xs with
  | nil =>
    refine Or.inl ⟨?_, by simp [goM]⟩
    rw [h.text]; exact tracksB_none _ h.rest
  | cons x xs =>
    have e := tracksB_line x (unl xs r) (h.lines x (List.mem_cons_self ..))
    rw [h.text]
    show (tracksB (x ++ 10 :: unl xs r) = none ∧ _) ∨ ∃ a s' xs', tracksB (x ++ 10 :: unl xs r) = some (a, s') ∧ _
    rw [e]
    cases ht : tracksM x with
    | none => exact Or.inl ⟨rfl, by simp [goM, takeM, ht]⟩
    | some a => exact Or.inr ⟨a, _, xs, rfl, rfl, h.tail, by simp [goM, takeM, ht]⟩
theorem good_toks (k : Nat) : ∀ t ∈ toksOf (wordsOf k), Good t := by
  have hw : ∀ ws : List Bs, (∀ w ∈ ws, Free w) → ∀ t ∈ toksOf ws, Good t := fun ws => by
    induction ws with
    | nil => intro _ t ht; simp [toksOf] at ht
    | cons w ws ih =>
      intro h t ht
      simp only [toksOf, List.mem_cons] at ht
      rcases ht with rfl | rfl | ht
      · exact h w (List.mem_cons_self ..)
      · trivial
      · exact ih (fun w hw => h w (List.mem_cons_of_mem _ hw)) t ht
  apply hw
  match k with
  | 0 => decide
  | 1 => decide
  | 2 => decide
  | _ + 3 => show ∀ w ∈ [[108, 101, 103], [114, 117, 110], [115, 116, 97, 121]], Free w; decide
theorem toks_ne (k : Nat) : toksOf (wordsOf k) ≠ [] := by
  match k with
  | 0 => simp [wordsOf, toksOf]
  | 1 => simp [wordsOf, toksOf]
  | 2 => simp [wordsOf, toksOf]
  | _ + 3 => simp [wordsOf, toksOf]
theorem numbers_line (k : Nat) (x r : Bs) (h : ∀ b ∈ x, b ≠ 10) : numbersB k (x ++ 10 :: r) = (numsM k x).map fun a => (a, r) := by
  rw [numbersB_row]; exact rowB_cut _ _ _ (toks_ne k) (good_toks k) h
theorem numbers_none (k : Nat) (s : Bs) (h : 10 ∉ s) : numbersB k s = none := by rw [numbersB_row]; exact rowB_none _ _ h
theorem gap_step {s : Bs} {l : LnL} {xs : List Bs} {r : Bs} (h : Left s l 1 xs r) :
    (numbersB 1 s = none ∧ goM l 1 xs r = .inr 2) ∨ ∃ a s' xs', numbersB 1 s = some (a, s') ∧ xs.length = xs'.length + 1 ∧ Left s' { l with gap := a.getD 0 0 } 2 xs' r ∧ goM l 1 xs r = goM { l with gap := a.getD 0 0 } 2 xs' r := by
  cases xs with
  | nil =>
    refine Or.inl ⟨?_, by simp [goM]⟩
    rw [h.text]; exact numbers_none _ _ h.rest
  | cons x xs =>
    have e := numbers_line 1 x (unl xs r) (h.lines x (List.mem_cons_self ..))
    rw [h.text]
    show (numbersB 1 (x ++ 10 :: unl xs r) = none ∧ _) ∨ ∃ a s' xs', numbersB 1 (x ++ 10 :: unl xs r) = some (a, s') ∧ _
    rw [e]
    cases ht : numsM 1 x with
    | none => exact Or.inl ⟨rfl, by simp [goM, takeM, ht]⟩
    | some a => exact Or.inr ⟨a, _, xs, rfl, rfl, h.tail, by simp [goM, takeM, ht]⟩
def legW : Bs := (wordsOf 3)[0]!
/-- the legs of a train are as they should be, up to the first row that is none -/
def legsOk : List Bs → Bs → Bool
  | [], r => !(legW.isPrefixOf r)
  | x :: xs, r => if legW.isPrefixOf (x ++ 10 :: unl xs r) then (numsM 3 x).isSome && legsOk xs r else true
def trainOk : List Bs → Bs → Bool
  | [], _ => false
  | x :: xs, r => (numsM 2 x).isSome && legsOk xs r
theorem legsOk_end {xs : List Bs} {r : Bs} (h : legW.isPrefixOf (unl xs r) = false) : legsOk xs r = true := by
  cases xs with
  | nil => simp only [legsOk]; simp only [unl] at h; rw [h]; rfl
  | cons x xs => simp only [legsOk]; simp only [unl] at h; rw [h]; rfl
theorem train_step {s : Bs} {l : LnL} {n : Nat} {xs : List Bs} {r : Bs} (h : Left s l n xs r) (hn : 2 ≤ n) (hs : s ≠ []) (hl : l.trains = [] ∨ legW.isPrefixOf s = false) :
    (numbersB 2 s = none ∧ goM l n xs r = .inr (n + 1) ∧ trainOk xs r = false) ∨ ∃ a s' xs', numbersB 2 s = some (a, s') ∧ trainOk xs r = legsOk xs' r ∧ xs.length = xs'.length + 1 ∧ Left s' { l with trains := l.trains ++ [trL a] } (n + 1) xs' r ∧ goM l n xs r = goM { l with trains := l.trains ++ [trL a] } (n + 1) xs' r := by
  have n0 : ¬ n = 0 := by omega
  have n1 : ¬ n = 1 := by omega
  cases xs with
  | nil =>
    have hr : r ≠ [] := by have := h.text; simp only [unl] at this; rw [← this]; exact hs
    refine Or.inl ⟨?_, by simp [goM, hr], rfl⟩
    rw [h.text]; exact numbers_none _ _ h.rest
  | cons x xs =>
    have e := numbers_line 2 x (unl xs r) (h.lines x (List.mem_cons_self ..))
    have hs2 : s = x ++ 10 :: unl xs r := h.text
    rw [hs2, e]
    cases ht : numsM 2 x with
    | none =>
      refine Or.inl ⟨rfl, ?_, by simp [trainOk, ht]⟩
      have : takeM l x n = none := by
        simp only [takeM, n0, n1, if_false, ht, Option.map_none]
        split
        · rfl
        · rcases hl with hl | hl
          · simp [hl]
          · cases h3 : numsM 3 x with
            | none => rfl
            | some a =>
              have hp := cutB_head x (likeB_head h3)
              have : legW <+: s := by rw [hs2]; exact hp.trans (List.prefix_append _ _)
              rw [List.isPrefixOf_iff_prefix.2 this] at hl
              cases hl
      simp [goM, this]
    | some a =>
      have hh : (cutB x).head? = some (wordsOf 2)[0]! := likeB_head ht
      refine Or.inr ⟨a, _, xs, rfl, by simp [trainOk, ht], rfl, h.tail, ?_⟩
      simp only [goM, takeM, n0, n1, if_false, hh, if_true, ht, Option.map_some]
theorem leg_step {s : Bs} {l : LnL} {ts : List TrL} {t : TrL} {n : Nat} {xs : List Bs} {r : Bs} (h : Left s l n xs r) (hn : 2 ≤ n) (ht : l.trains = ts ++ [t]) (hl : legW.isPrefixOf s = true) :
    (numbersB 3 s = none ∧ goM l n xs r = .inr (n + 1) ∧ legsOk xs r = false) ∨ ∃ a s' xs', numbersB 3 s = some (a, s') ∧ legsOk xs r = legsOk xs' r ∧ xs.length = xs'.length + 1 ∧ Left s' { l with trains := ts ++ [t.add (legL a)] } (n + 1) xs' r ∧ goM l n xs r = goM { l with trains := ts ++ [t.add (legL a)] } (n + 1) xs' r := by
  have n0 : ¬ n = 0 := by omega
  have n1 : ¬ n = 1 := by omega
  have hp := List.isPrefixOf_iff_prefix.1 hl
  have hlw : legW = [108, 101, 103] := rfl
  rw [hlw] at hp
  cases xs with
  | nil =>
    have hr : r ≠ [] := by
      have := h.text; simp only [unl] at this; rw [← this]
      rintro rfl
      simp at hp
    refine Or.inl ⟨?_, by simp [goM, hr], by have h2 := h.text; simp only [unl] at h2; simp only [legsOk]; rw [← h2, hl]; rfl⟩
    rw [h.text]; exact numbers_none _ _ h.rest
  | cons x xs =>
    have e := numbers_line 3 x (unl xs r) (h.lines x (List.mem_cons_self ..))
    have hs2 : s = x ++ 10 :: unl xs r := h.text
    have hl2 := hl
    rw [hs2, e]
    have hne : ¬ ((cutB x).head? = some (wordsOf 2)[0]!) := fun hh => by
      have h1 := (cutB_head x hh).trans (List.prefix_append x (10 :: unl xs r))
      rw [← hs2] at h1
      have hw2 : (wordsOf 2)[0]! = [116, 114, 97, 105, 110] := rfl
      rw [hw2] at h1
      obtain ⟨u, hu⟩ := h1
      obtain ⟨v, hv⟩ := hp
      rw [← hu] at hv
      simp at hv
    cases h3 : numsM 3 x with
    | none => exact Or.inl ⟨rfl, by simp only [goM, takeM, n0, n1, if_false, hne, h3, Option.bind_none], by simp only [legsOk]; rw [← hs2, hl, h3]; rfl⟩
    | some a =>
      refine Or.inr ⟨a, _, xs, rfl, by simp only [legsOk]; rw [← hs2, hl, h3]; simp, rfl, h.tail, ?_⟩
      have hn2 : ¬ (l.trains = []) := by rw [ht]; simp
      simp only [goM, takeM, n0, n1, if_false, hne, h3, Option.bind_some, hn2]
      rw [ht, addLeg_snoc]

/-- how many numbers, and how great -/
def numCount : List Tok → Nat
  | [] => 0
  | .word _ :: ts => numCount ts
  | .num :: ts => numCount ts + 1
theorem likeB_range (ts : List Tok) (c : List Bs) (a : List Int) (h : likeB ts c = some a) : a.length = numCount ts ∧ ∀ z ∈ a, 0 ≤ z ∧ z ≤ 9999999 := by
  induction ts generalizing c a with
  | nil =>
    cases c with
    | nil => simp only [likeB, Option.some.injEq] at h; subst h; simp [numCount]
    | cons x xs => simp [likeB] at h
  | cons t ts ih =>
    cases c with
    | nil => simp [likeB] at h
    | cons x xs =>
      simp only [likeB] at h
      cases h1 : tokOk t x with
      | none => simp [h1] at h
      | some p =>
        cases h2 : likeB ts xs with
        | none => simp [h1, h2] at h
        | some q =>
          simp only [h1, h2, Option.bind_some, Option.map_some, Option.some.injEq] at h
          subst h
          obtain ⟨i1, i2⟩ := ih xs q h2
          cases t with
          | word w =>
            rw [tokOk_word] at h1
            split at h1
            · simp only [Option.some.injEq] at h1; subst h1; exact ⟨i1, i2⟩
            · cases h1
          | num =>
            rw [tokOk_num] at h1
            split at h1
            · rename_i hk
              simp only [Option.some.injEq] at h1
              subst h1
              obtain ⟨_, k1, k2, _⟩ := num_ok hk
              refine ⟨by simp [numCount, i1], fun z hz => ?_⟩
              simp only [List.cons_append, List.nil_append, List.mem_cons] at hz
              rcases hz with rfl | hz
              · exact ⟨k1, k2⟩
              · exact i2 z hz
            · cases h1
end Go.Proofs.YtnjaegeapcijpaaGreatDoor

namespace Go.Proofs.YtnjaegeapcijpaaGreatDoor
open Go.RowKit

/-- in no block of the other -/
def Off (u v : Value) : Prop := ∀ k, u.ownBlock = some k → v.ownBlock ≠ some k
theorem Off.symm {u v : Value} (h : Off u v) : Off v u := fun k hk hu => h k hu hk
theorem Off.loc {u v v' : Value} {W : World} (h : Off u v) (hu : ∀ k, u.ownBlock = some k → k < W.heap.size) (hl : v'.ownBlock = v.ownBlock ∨ v'.ownBlock = some W.heap.size) : Off u v' := fun k hk => by
  rcases hl with e | e
  · rw [e]; exact h k hk
  · rw [e]; have := hu k hk; intro h2; cases h2; omega
theorem ownsRow_put {w : World} {base : Nat} {e : TypeId} {size g cap n : Nat} {xs : List Value} (h : w.ownsRow base e size (.slice (some ⟨g, 0, none⟩) n cap) n xs) (i : Nat) (u : Value) : (w.setCell ⟨g, i, none⟩ u).ownsRow base e size (.slice (some ⟨g, 0, none⟩) n cap) n (xs.set i u) := by
  obtain ⟨hl, hn | ⟨g', cap', cur, hv, hb, hg, h1, h2, h3, h4⟩⟩ := h
  · cases hn.1
  · cases hv
    have hlt := lt_of_block hg
    have h' : w.heap[g] = .cells cur e (0, 0) := by simpa [Array.getElem?_eq_getElem hlt] using hg
    refine ⟨by simpa using hl, Or.inr ⟨g, cap, cur.set! i u, rfl, hb, ?_, h1, h2, by simpa using h3, ?_⟩⟩
    · show (w.heap.modify g _)[g]? = _
      rw [Array.getElem?_eq_getElem (by simpa using hlt), Array.getElem_modify_self, h']
      rfl
    · rw [← h4]
      simp [List.take_set]

def legCells (L : List LegD) : List Value := L.flatMap fun g => [.int .i64 g.to, .int .i64 g.run, .int .i64 g.stay]
abbrev TrV := TrL × Value
def trCells (L : List TrV) : List Value := L.flatMap fun x => [.int .i64 x.1.frm, .int .i64 x.1.ready, .int .i64 x.1.due, .int .i64 x.1.weight, x.2]
def intCells (L : List Int) : List Value := L.map fun n => .int .i64 n
theorem intCells_snoc (L : List Int) (n : Int) : intCells (L ++ [n]) = intCells L ++ [.int .i64 n] := by simp [intCells]
theorem intCells_len (L : List Int) : (intCells L).length = L.length := by simp [intCells]
theorem legCells_snoc (L : List LegD) (g : LegD) : legCells (L ++ [g]) = legCells L ++ [.int .i64 g.to, .int .i64 g.run, .int .i64 g.stay] := by simp [legCells]
theorem trCells_snoc (L : List TrV) (x : TrV) : trCells (L ++ [x]) = trCells L ++ [.int .i64 x.1.frm, .int .i64 x.1.ready, .int .i64 x.1.due, .int .i64 x.1.weight, x.2] := by simp [trCells]
theorem trCells_len (L : List TrV) : (trCells L).length = L.length * 5 := by
  induction L with
  | nil => rfl
  | cons x L ih =>
    have : trCells (x :: L) = [.int .i64 x.1.frm, .int .i64 x.1.ready, .int .i64 x.1.due, .int .i64 x.1.weight, x.2] ++ trCells L := by simp [trCells]
    rw [this, List.length_append, ih]; simp; omega
theorem trCells_set (L : List TrV) (t : TrL) (v v' : Value) (g : LegD) : (trCells (L ++ [(t, v)])).set (L.length * 5 + 4) v' = trCells (L ++ [(t.add g, v')]) := by
  rw [trCells_snoc, trCells_snoc, List.set_append_right _ _ (by rw [trCells_len]; omega), trCells_len, show L.length * 5 + 4 - L.length * 5 = 4 by omega]
  rfl
theorem trCells_at (L : List TrV) (j : Nat) (x : TrV) (h : L[j]? = some x) : (trCells L)[j * 5]? = some (.int .i64 x.1.frm) ∧ (trCells L)[j * 5 + 1]? = some (.int .i64 x.1.ready) ∧ (trCells L)[j * 5 + 2]? = some (.int .i64 x.1.due) ∧ (trCells L)[j * 5 + 3]? = some (.int .i64 x.1.weight) ∧ (trCells L)[j * 5 + 4]? = some x.2 := by
  induction L generalizing j with
  | nil => simp at h
  | cons y L ih =>
    have hc : trCells (y :: L) = [.int .i64 y.1.frm, .int .i64 y.1.ready, .int .i64 y.1.due, .int .i64 y.1.weight, y.2] ++ trCells L := by simp [trCells]
    rw [hc]
    cases j with
    | zero => simp only [List.getElem?_cons_zero, Option.some.injEq] at h; subst h; exact ⟨rfl, rfl, rfl, rfl, rfl⟩
    | succ j =>
      rw [List.getElem?_cons_succ] at h
      have := ih j h
      have e : ∀ d, ([Value.int .i64 y.1.frm, .int .i64 y.1.ready, .int .i64 y.1.due, .int .i64 y.1.weight, y.2] ++ trCells L)[(j + 1) * 5 + d]? = (trCells L)[j * 5 + d]? := fun d => by
        rw [List.getElem?_append_right (by simp; omega)]
        congr 1; simp; omega
      exact ⟨(e 0).trans this.1, (e 1).trans this.2.1, (e 2).trans this.2.2.1, (e 3).trans this.2.2.2.1, (e 4).trans this.2.2.2.2⟩
theorem legCells_at (L : List LegD) (j : Nat) (x : LegD) (h : L[j]? = some x) : (legCells L)[j * 3]? = some (.int .i64 x.to) ∧ (legCells L)[j * 3 + 1]? = some (.int .i64 x.run) ∧ (legCells L)[j * 3 + 2]? = some (.int .i64 x.stay) := by
  induction L generalizing j with
  | nil => simp at h
  | cons y L ih =>
    have hc : legCells (y :: L) = [.int .i64 y.to, .int .i64 y.run, .int .i64 y.stay] ++ legCells L := by simp [legCells]
    rw [hc]
    cases j with
    | zero => simp only [List.getElem?_cons_zero, Option.some.injEq] at h; subst h; exact ⟨rfl, rfl, rfl⟩
    | succ j =>
      rw [List.getElem?_cons_succ] at h
      have := ih j h
      have e : ∀ d, ([Value.int .i64 y.to, .int .i64 y.run, .int .i64 y.stay] ++ legCells L)[(j + 1) * 3 + d]? = (legCells L)[j * 3 + d]? := fun d => by
        rw [List.getElem?_append_right (by simp; omega)]
        congr 1; simp; omega
      exact ⟨(e 0).trans this.1, (e 1).trans this.2.1, (e 2).trans this.2.2⟩

/-- the legs of a train, of the call's own -/
def OwnLegs (B0 : Nat) (W : World) (v : Value) (L : List LegD) : Prop := W.ownsRow B0 73 3 v L.length (legCells L)
structure OwnT (B0 : Nat) (W : World) (v : Value) (L : List TrV) : Prop where
  row : W.ownsRow B0 71 5 v L.length (trCells L)
  legs : ∀ x ∈ L, OwnLegs B0 W x.2 x.1.legs
  apart : L.Pairwise fun x y => Off x.2 y.2
  off : ∀ x ∈ L, Off x.2 v
section
variable {B0 : Nat} {W : World} {v : Value} {L : List TrV}
theorem OwnT.nil (B0 : Nat) (W : World) : OwnT B0 W (.slice none 0 0) [] := ⟨World.ownsRow_nil _ _ _ _, fun _ hx => absurd hx List.not_mem_nil, List.Pairwise.nil, fun _ hx => absurd hx List.not_mem_nil⟩
theorem OwnT.same (h : OwnT B0 W v L) {W' : World} (hs : ∀ k, (v.ownBlock = some k ∨ ∃ x ∈ L, x.2.ownBlock = some k) → W'.heap[k]? = W.heap[k]?) : OwnT B0 W' v L :=
  ⟨ownsRow_same h.row (fun k hk => hs k (Or.inl hk)), fun x hx => ownsRow_same (h.legs x hx) (fun k hk => hs k (Or.inr ⟨x, hx, hk⟩)), h.apart, h.off⟩
theorem OwnT.lt (h : OwnT B0 W v L) {k : Nat} (hk : v.ownBlock = some k ∨ ∃ x ∈ L, x.2.ownBlock = some k) : B0 ≤ k ∧ k < W.heap.size := by
  rcases hk with hk | ⟨x, hx, hk⟩
  · exact h.row.lt k hk
  · exact (h.legs x hx).lt k hk
theorem OwnT.later (h : OwnT B0 W v L) {W' : World} (hB : Below W.heap.size W W') : OwnT B0 W' v L := h.same (fun k hk => hB.block k (h.lt hk).2)
theorem OwnT.set (h : OwnT B0 W v L) {p : Addr} (hp : p.block < B0) (x : Value) : OwnT B0 (W.setCell p x) v L := h.same (fun k hk => Below.heap_setCell W p x k (by have := (h.lt hk).1; omega))
theorem OwnT.low (h : OwnT B0 W v L) {B1 : Nat} (hb : B1 ≤ B0) : OwnT B1 W v L := ⟨Joins.ownsRow_le h.row hb, fun x hx => Joins.ownsRow_le (h.legs x hx) hb, h.apart, h.off⟩
/-- one train more -/
theorem OwnT.snoc {W' : World} {v' : Value} {t : TrL} {lv : Value} (h : OwnT B0 W v L) (ho : W'.ownsRow B0 71 5 v' (L.length + 1) (trCells L ++ [.int .i64 t.frm, .int .i64 t.ready, .int .i64 t.due, .int .i64 t.weight, lv]))
    (hl : OwnLegs B0 W lv t.legs) (ha : ∀ x ∈ L, Off x.2 lv) (hf : Off lv v) (hg : W.grownBy W' v.ownBlock) (hloc : v'.ownBlock = v.ownBlock ∨ v'.ownBlock = some W.heap.size) : OwnT B0 W' v' (L ++ [(t, lv)]) := by
  have keep : ∀ u : Value, Off u v → (∀ k, u.ownBlock = some k → k < W.heap.size) → ∀ k, u.ownBlock = some k → W'.heap[k]? = W.heap[k]? := fun u hu hlt k hk => hg.block k (hlt k hk) (fun e => hu k hk e.symm)
  have hlt : ∀ k, lv.ownBlock = some k → k < W.heap.size := fun k hk => (World.ownsRow.lt hl k hk).2
  have hlx : ∀ x ∈ L, ∀ k, x.2.ownBlock = some k → k < W.heap.size := fun x hx k hk => ((h.legs x hx).lt k hk).2
  refine ⟨by rw [trCells_snoc, List.length_append]; exact ho, fun x hx => ?_, ?_, fun x hx => ?_⟩
  · rcases List.mem_append.1 hx with hx | hx
    · exact ownsRow_same (h.legs x hx) (keep _ (h.off x hx) (hlx x hx))
    · rw [List.mem_singleton] at hx; subst hx; exact ownsRow_same hl (keep _ hf hlt)
  · rw [List.pairwise_append]
    exact ⟨h.apart, List.pairwise_singleton _ _, fun x hx y hy => by rw [List.mem_singleton] at hy; subst hy; exact ha x hx⟩
  · rcases List.mem_append.1 hx with hx | hx
    · exact (h.off x hx).loc (hlx x hx) hloc
    · rw [List.mem_singleton] at hx; subst hx; exact hf.loc hlt hloc
/-- one leg more, of the last train, where it lies -/
theorem OwnT.leg {g cap : Nat} {t : TrL} {lv lv' : Value} {n : LegD} {W1 : World} (h : OwnT B0 W (.slice (some ⟨g, 0, none⟩) (L.length + 1) cap) (L ++ [(t, lv)]))
    (ho : W1.ownsRow B0 73 3 lv' (t.legs.length + 1) (legCells t.legs ++ [.int .i64 n.to, .int .i64 n.run, .int .i64 n.stay])) (hg : W.grownBy W1 lv.ownBlock) (hloc : lv'.ownBlock = lv.ownBlock ∨ lv'.ownBlock = some W.heap.size) :
    OwnT B0 (W1.setCell ⟨g, L.length * 5 + 4, none⟩ lv') (.slice (some ⟨g, 0, none⟩) (L.length + 1) cap) (L ++ [(t.add n, lv')]) := by
  have hrow := h.row
  rw [List.length_append] at hrow
  have hoff : Off lv (.slice (some ⟨g, 0, none⟩) (L.length + 1) cap) := h.off (t, lv) (by simp)
  have gl : g < W.heap.size := (hrow.lt g rfl).2
  have hgk : W1.heap[g]? = W.heap[g]? := hg.block g gl (fun e => hoff g e.symm rfl)
  have hrow1 := ownsRow_same (W' := W1) hrow (fun k hk => by simp only [Value.ownBlock, Option.some.injEq] at hk; subst hk; exact hgk)
  have hp := List.pairwise_append.1 h.apart
  have hxl : ∀ x ∈ L, Off x.2 lv := fun x hx => hp.2.2 x hx (t, lv) (by simp)
  have hoff' : Off lv' (.slice (some ⟨g, 0, none⟩) (L.length + 1) cap) := fun k hk e => by
    rcases hloc with e2 | e2
    · exact hoff k (e2.symm.trans hk) e
    · rw [e2] at hk; cases hk; simp only [Value.ownBlock, Option.some.injEq] at e; omega
  refine ⟨?_, fun x hx => ?_, ?_, fun x hx => ?_⟩
  · have := ownsRow_put hrow1 (L.length * 5 + 4) lv'
    rw [trCells_set L t lv lv' n] at this
    rw [List.length_append]
    exact this
  · rcases List.mem_append.1 hx with hx | hx
    · refine ownsRow_same (h.legs x (List.mem_append_left _ hx)) (fun k hk => ?_)
      have hk2 := ((h.legs x (List.mem_append_left _ hx)).lt k hk).2
      rw [Below.heap_setCell W1 _ _ k (fun e => h.off x (List.mem_append_left _ hx) k hk (by rw [e]; rfl))]
      exact hg.block k hk2 (fun e => hxl x hx k hk e.symm)
    · rw [List.mem_singleton] at hx; subst hx
      unfold OwnLegs TrL.add
      dsimp only
      rw [legCells_snoc, List.length_append]
      exact ownsRow_same ho (fun k hk => Below.heap_setCell W1 _ _ k (fun e => hoff' k hk (by rw [e]; rfl)))
  · rw [List.pairwise_append]
    refine ⟨hp.1, List.pairwise_singleton _ _, fun x hx y hy => ?_⟩
    rw [List.mem_singleton] at hy; subst hy
    exact (hxl x hx).loc (fun k hk => ((h.legs x (List.mem_append_left _ hx)).lt k hk).2) hloc
  · rcases List.mem_append.1 hx with hx | hx
    · exact h.off x (List.mem_append_left _ hx)
    · rw [List.mem_singleton] at hx; subst hx; exact hoff'
end
/-- as a line's data has them -/
def nilT : TrL := ⟨0, 0, 0, 0, []⟩
def trD (t : TrL) : TrainD := ⟨t.frm, t.ready, t.due, t.weight, t.legs.length, fun m => t.legs.getD m ⟨0, 0, 0⟩⟩
def fT (L : List TrL) (j : Nat) : TrainD := trD (L.getD j nilT)
def gI (L : List Int) (j : Nat) : Int := L.getD j 0
theorem OwnLegs.legs {B0 : Nat} {W : World} {v : Value} {L : List LegD} (h : OwnLegs B0 W v L) : ∃ a cap, v = .slice a L.length cap ∧ IsLegs B0 W.heap.size W a L.length (fun m => L.getD m ⟨0, 0, 0⟩) := by
  rcases h.2 with ⟨rfl, h0⟩ | ⟨g, cap, cur, rfl, hb, hg, _⟩
  · exact ⟨none, 0, by rw [h0], fun j hj => by omega⟩
  · refine ⟨_, cap, rfl, fun j hj => ?_⟩
    have hl : L[j]? = some (L.getD j ⟨0, 0, 0⟩) := by rw [List.getD_eq_getElem?_getD, List.getElem?_eq_getElem hj]; rfl
    obtain ⟨c0, c1, c2⟩ := legCells_at L j _ hl
    have hlt := World.ownsRow.lt h g rfl
    refine ⟨g, 0, rfl, hlt.1, hlt.2, ?_, ?_, ?_⟩
    · rw [Nat.zero_add, World.ownsRow.cellAt h _ (by omega)]; exact c0
    · rw [Nat.zero_add, World.ownsRow.cellAt h _ (by omega)]; exact c1
    · rw [Nat.zero_add, World.ownsRow.cellAt h _ (by omega)]; exact c2
theorem OwnT.trains {B0 : Nat} {W : World} {v : Value} {L : List TrV} (h : OwnT B0 W v L) (hn : ∀ x ∈ L, x.1.legs.length ≤ maxLen) : ∃ a cap, v = .slice a L.length cap ∧ IsTrains B0 W.heap.size W a L.length (fT (L.map Prod.fst)) := by
  rcases h.row.2 with ⟨rfl, h0⟩ | ⟨g, cap, cur, rfl, hb, hg, _⟩
  · exact ⟨none, 0, by rw [h0], fun j hj => by omega⟩
  · refine ⟨_, cap, rfl, fun j hj => ?_⟩
    have hl : L[j]? = some L[j] := List.getElem?_eq_getElem hj
    have hf : fT (L.map Prod.fst) j = trD L[j].1 := by unfold fT; rw [List.getD_eq_getElem?_getD, List.getElem?_map, hl]; rfl
    obtain ⟨c0, c1, c2, c3, c4⟩ := trCells_at L j _ hl
    have hlt := World.ownsRow.lt h.row g rfl
    have hm : L[j] ∈ L := List.getElem_mem hj
    obtain ⟨la, lc, e4, hlg⟩ := OwnLegs.legs (h.legs _ hm)
    rw [e4] at c4
    rw [hf]
    refine ⟨g, 0, la, lc, rfl, hlt.1, hlt.2, ?_, ?_, ?_, ?_, ?_, hlg, hn _ hm⟩
    · rw [Nat.zero_add, World.ownsRow.cellAt h.row _ (by omega)]; exact c0
    · rw [Nat.zero_add, World.ownsRow.cellAt h.row _ (by omega)]; exact c1
    · rw [Nat.zero_add, World.ownsRow.cellAt h.row _ (by omega)]; exact c2
    · rw [Nat.zero_add, World.ownsRow.cellAt h.row _ (by omega)]; exact c3
    · rw [Nat.zero_add, World.ownsRow.cellAt h.row _ (by omega)]; exact c4
theorem ownInts {B0 : Nat} {W : World} {v : Value} {L : List Int} (h : W.ownsRow B0 3 1 v L.length (intCells L)) : ∃ a cap, v = .slice a L.length cap ∧ IsInts B0 W.heap.size W a L.length (gI L) := by
  rcases h.2 with ⟨rfl, h0⟩ | ⟨g, cap, cur, rfl, hb, hg, _⟩
  · exact ⟨none, 0, by rw [h0], fun j hj => by omega⟩
  · refine ⟨_, cap, rfl, fun j hj => ⟨g, 0, rfl, (World.ownsRow.lt h g rfl).1, (World.ownsRow.lt h g rfl).2, ?_⟩⟩
    rw [Nat.zero_add, World.ownsRow.cellAt h _ (by omega)]
    unfold intCells gI
    rw [List.getElem?_map, List.getD_eq_getElem?_getD, List.getElem?_eq_getElem hj]
    rfl
end Go.Proofs.YtnjaegeapcijpaaGreatDoor
