/-
  What the rows' listed variable gives; a world that meets the rows' condition.
  The laws' copy of a plan: its rows have room for what they hold.
  The laws' own copies of an argument can be written into; what a store into them leaves as it was.
  The draws of the model: a box of choices.
  The draws of the model: a number below another.
  A line as a text, over plain data.
  A text as plain bytes: what a row of a kind is, taken piece by piece, and cut at its blanks.
  The numbers of a text: what Atoi and Itoa say of digits.
  A text as plain bytes: its lines, and what is read of each.
-/
import Derived.Test.YtelickcfodcmaaaGreatDoorCards
import Derived.Test.YtelickcfodcmaaaGreatDoorTie
import Derived.ProofKit
import Derived.OpenShut
import Derived.LaidHandle
import Derived.LaidLaws
import Derived.Deep.DeepHandedRow
import Derived.Test.YtelickcfodcmaaaGreatDoorPlans
import Derived.Laws.Bits64b
import Derived.Test.YtelickcfodcmaaaGreatDoorPlainG
import Derived.Lib.ItoaNum
import Derived.Lib.Join
import Derived.Laws.Concat
import Derived.Lib.AtoiAllCases
namespace Go.Proofs.YtelickcfodcmaaaGreatDoor
open Go.ChangeShapes Go.WideShapes Go.ChangeAt Go.RowKit

theorem Tryz.own : ownKnob Tryz.prog.godebug = none := by kernel_rfl
theorem Tryz.et : Tryz.prog.globalNamed "errors.errorType" = some 0 := by kernel_rfl
theorem Tryz.rt : (Tryz.prog.cutTypes.find? (·.1 == "internal/reflectlite.rtype")).map (·.2) = some 234 := by kernel_rfl
theorem Tryz.oneRow : ((List.range 289).filter fun t => Tryz.prog.rowNamed t [101, 114, 114, 111, 114]) = [165] := by kernel_rfl
theorem Tryz.tsize : Tryz.prog.types.size = 289 := by kernel_rfl
theorem Tryz.laidOut : laidOutB Tryz.prog = true := by kernel_rfl

/-- what the row's list gives: the variable's one cell -/
theorem handle_of_laid {W : World} (h : laidMetH Tryz.prog [("errors.errorType", Rows.laid_errors_errorType)] W) : W.cell? ⟨0, 0, none⟩ = some (.iface 234 (.agg #[.pointer (some ⟨1, 165, none⟩)])) := by
  have h' : laidMet Tryz.prog [] W ∧ handlesMet Tryz.prog [("errors.errorType", Rows.laid_errors_errorType)] W := h
  obtain ⟨name, u, ty, e1, e2, e3, e4, e5⟩ := h'.2 _ (List.mem_singleton.2 rfl)
  have en : name = [101, 114, 114, 111, 114] := (Option.some.inj e1).symm
  subst en
  obtain rfl := Option.some.inj (Tryz.rt.symm.trans e2)
  have hm : ty ∈ (List.range 289).filter fun t => Tryz.prog.rowNamed t [101, 114, 114, 111, 114] := List.mem_filter.2 ⟨List.mem_range.2 (by rw [← Tryz.tsize]; exact e3), e4⟩
  rw [Tryz.oneRow] at hm
  obtain rfl := List.mem_singleton.1 hm
  have hh : typeHandle Tryz.prog 165 = .pointer (some ⟨1, 165, none⟩) := by kernel_rfl
  rw [hh] at e5
  simpa using World.var?_cell Tryz.et e5 0

/-- a world that meets the condition -/
noncomputable def laidWorld (os : Os) : World :=
  let w0 := World.holding Tryz.prog os ⟨#[], #[], []⟩
  { w0 with heap := w0.heap.modify 0 fun
      | .cells _ t frozen => .cells #[.iface 234 (.agg #[.pointer (some ⟨1, 165, none⟩)])] t frozen
      | o => o }
theorem laidWorld_met (os : Os) (args : Array Value) : laidMetH Tryz.prog [("errors.errorType", Rows.laid_errors_errorType)] ((laidWorld os).forCall (fun _ _ => 0) ⟨#[], args, []⟩).memory :=
  laidMetH_of_parts (laidMet_nil _ _) (by kernel_rfl)

end Go.Proofs.YtelickcfodcmaaaGreatDoor

namespace Go.Proofs.YtelickcfodcmaaaGreatDoor
open Go.RowKit

def Caps (W : World) (c : Option Addr) (np : Nat) : Prop := ∀ j, j < np → ∃ b off la n lc, c = some ⟨b, off, none⟩ ∧ W.cell? ⟨b, off + j, none⟩ = some (.slice la n lc) ∧ n ≤ lc
theorem Caps.later {W W' : World} {c : Option Addr} {np : Nat} (h : Caps W c np) (hB : Below W.heap.size W W') : Caps W' c np := fun j hj => by
  obtain ⟨b, off, la, n, lc, e, hc, hl⟩ := h j hj
  exact ⟨b, off, la, n, lc, e, cellLater hB hc, hl⟩
theorem Caps.at {W : World} {b off np : Nat} (h : Caps W (some ⟨b, off, none⟩) np) {j : Nat} (hj : j < np) {la : Option Addr} {n lc : Nat} (hc : W.cell? ⟨b, off + j, none⟩ = some (.slice la n lc)) : n ≤ lc := by
  obtain ⟨b', off', la', n', lc', e, hc', hl⟩ := h j hj
  cases e
  rw [hc] at hc'
  cases hc'
  exact hl

end Go.Proofs.YtelickcfodcmaaaGreatDoor

namespace Go.Proofs.YtelickcfodcmaaaGreatDoor
open Go.RowKit

/-- m places that can be written, in a block from lo on and below hi -/
def Soft (lo hi : Nat) (W : World) (a : Option Addr) (m : Nat) : Prop :=
  ∀ i, i < m → ∃ b off v, a = some ⟨b, off, none⟩ ∧ lo ≤ b ∧ b < hi ∧ W.cell? ⟨b, off + i, none⟩ = some v ∧ W.frozen? ⟨b, off + i, none⟩ = false
/-- only blocks from lo on and below hi were written, and what could be written still can -/
structure Mid (lo hi : Nat) (w w' : World) : Prop where
  below : Below lo w w'
  above : ∀ x, hi ≤ x → x < w.heap.size → w'.heap[x]? = w.heap[x]?
  keeps : ∀ b o v, w.cell? ⟨b, o, none⟩ = some v → w.frozen? ⟨b, o, none⟩ = false → ∃ v', w'.cell? ⟨b, o, none⟩ = some v' ∧ w'.frozen? ⟨b, o, none⟩ = false
theorem Mid.refl (lo hi : Nat) (w : World) : Mid lo hi w w := ⟨Below.refl _ _, fun _ _ _ => rfl, fun _ _ v h f => ⟨v, h, f⟩⟩
theorem Mid.trans {lo hi : Nat} {a b c : World} (h : Mid lo hi a b) (k : Mid lo hi b c) : Mid lo hi a c :=
  ⟨h.below.trans k.below, fun x h0 h1 => (k.above x h0 (Nat.lt_of_lt_of_le h1 h.below.size)).trans (h.above x h0 h1), fun b o v hc hf => by
    obtain ⟨v', h1, h2⟩ := h.keeps b o v hc hf
    exact k.keeps b o v' h1 h2⟩
theorem Mid.mono {lo hi lo' hi' : Nat} {a b : World} (h : Mid lo hi a b) (h0 : lo' ≤ lo) (h1 : hi ≤ hi') : Mid lo' hi' a b :=
  ⟨h.below.mono h0, fun x hx => h.above x (by omega), h.keeps⟩
theorem Mid.set {lo hi : Nat} {w : World} {b o : Nat} (h0 : lo ≤ b) (h1 : b < hi) (x : Value) : Mid lo hi w (w.setCell ⟨b, o, none⟩ x) :=
  ⟨(Below.refl _ _).setCell (p := ⟨b, o, none⟩) h0 x, fun y hy _ => Below.heap_setCell w ⟨b, o, none⟩ x y (by simp; omega), fun b' o' v hc hf => by
    obtain ⟨v', hv'⟩ := cell?_setCell_some (w := w) (p := ⟨b, o, none⟩) (x := x) hc
    exact ⟨v', hv', by rw [World.frozen?_setCell]; exact hf⟩⟩
theorem Mid.ofBelow {lo hi : Nat} {w w' : World} (h : Below w.heap.size w w') (hlo : lo ≤ w.heap.size) : Mid lo hi w w' :=
  ⟨h.mono hlo, fun x _ hx => h.block x hx, fun b o v hc hf => ⟨v, cellLater h hc, (h.frozen (p := ⟨b, o, none⟩) (ltCell hc)).trans hf⟩⟩
theorem Mid.cellAbove {lo hi : Nat} {w w' : World} (h : Mid lo hi w w') {b o : Nat} {v : Value} (hb : hi ≤ b) (hc : w.cell? ⟨b, o, none⟩ = some v) : w'.cell? ⟨b, o, none⟩ = some v :=
  (World.cell?_of_block (w := w) (w' := w') (a := ⟨b, o, none⟩) (h.above b hb (ltCell hc))).trans hc
theorem Mid.cellBelow {lo hi : Nat} {w w' : World} (h : Mid lo hi w w') {b o : Nat} {v : Value} (hb : b < lo) (hc : w.cell? ⟨b, o, none⟩ = some v) : w'.cell? ⟨b, o, none⟩ = some v :=
  (h.below.cell (p := ⟨b, o, none⟩) hb).trans hc
theorem Mid.sameBelow {lo hi m n : Nat} {w w' : World} (h : Mid lo hi w w') (hn : n ≤ lo) : Same m n w w' := Same.below h.below hn
theorem Mid.sameAbove {lo hi m n : Nat} {w w' : World} (h : Mid lo hi w w') (hm : hi ≤ m) (hn : n ≤ w.heap.size) : Same m n w w' := fun k h0 h1 => h.above k (by omega) (by omega)

theorem Soft.mid {lo hi lo' hi' : Nat} {W W' : World} {a : Option Addr} {m : Nat} (h : Soft lo hi W a m) (hm : Mid lo' hi' W W') : Soft lo hi W' a m := fun i hi => by
  obtain ⟨b, off, v, e, h0, h1, hc, hf⟩ := h i hi
  obtain ⟨v', hc', hf'⟩ := hm.keeps b _ v hc hf
  exact ⟨b, off, v', e, h0, h1, hc', hf'⟩
theorem Soft.later {lo hi : Nat} {W W' : World} {a : Option Addr} {m : Nat} (h : Soft lo hi W a m) (hb : Below W.heap.size W W') : Soft lo hi W' a m :=
  h.mid (Mid.ofBelow (lo := 0) (hi := 0) hb (Nat.zero_le _))
theorem Soft.set {lo hi : Nat} {W : World} {a : Option Addr} {m : Nat} (h : Soft lo hi W a m) (p : Addr) (x : Value) : Soft lo hi (W.setCell p x) a m := fun i hi => by
  obtain ⟨b, off, v, e, h0, h1, hc, hf⟩ := h i hi
  obtain ⟨v', hv'⟩ := cell?_setCell_some (w := W) (p := p) (x := x) hc
  exact ⟨b, off, v', e, h0, h1, hv', by rw [World.frozen?_setCell]; exact hf⟩
theorem Soft.mono {lo hi lo' hi' : Nat} {W : World} {a : Option Addr} {m : Nat} (h : Soft lo hi W a m) (h0 : lo' ≤ lo) (h1 : hi ≤ hi') : Soft lo' hi' W a m := fun i hi => by
  obtain ⟨b, off, v, e, k0, k1, hc, hf⟩ := h i hi
  exact ⟨b, off, v, e, by omega, by omega, hc, hf⟩
theorem Soft.room {B m hi : Nat} {W : World} (h : Room B m W) (hB : B < hi) : Soft B hi W (some ⟨B, 0, none⟩) m := fun i hi' => by
  obtain ⟨v, hv, hf⟩ := h i hi'
  exact ⟨B, 0, v, rfl, Nat.le_refl _, hB, by rw [Nat.zero_add]; exact hv, by rw [Nat.zero_add]; exact hf⟩

/-- trains that can be written: the numbers, and the legs, which lie above -/
def SoftT (lo hi : Nat) (W : World) (a : Option Addr) (len : Nat) (nl : Nat → Nat) : Prop :=
  ∀ j, j < len → ∃ b off la lc, a = some ⟨b, off, none⟩ ∧ lo ≤ b ∧ b < hi ∧ (∀ c, c < 4 → ∃ v, W.cell? ⟨b, off + j * 5 + c, none⟩ = some v ∧ W.frozen? ⟨b, off + j * 5 + c, none⟩ = false) ∧ W.cell? ⟨b, off + j * 5 + 4, none⟩ = some (.slice la (nl j) lc) ∧ Soft (b + 1) hi W la (nl j * 3)
/-- rows that can be written: the numbers, which lie above -/
def SoftR (lo hi : Nat) (W : World) (a : Option Addr) (len : Nat) (n : Nat → Nat) : Prop :=
  ∀ j, j < len → ∃ b off la lc, a = some ⟨b, off, none⟩ ∧ lo ≤ b ∧ b < hi ∧ W.cell? ⟨b, off + j, none⟩ = some (.slice la (n j) lc) ∧ Soft (b + 1) hi W la (n j)
theorem SoftT.later {lo hi : Nat} {W W' : World} {a : Option Addr} {len : Nat} {nl : Nat → Nat} (h : SoftT lo hi W a len nl) (hb : Below W.heap.size W W') : SoftT lo hi W' a len nl := fun j hj => by
  obtain ⟨b, off, la, lc, e, h0, h1, h2, h3, h4⟩ := h j hj
  exact ⟨b, off, la, lc, e, h0, h1, fun c hc => by obtain ⟨v, hv, hf⟩ := h2 c hc; exact ⟨v, cellLater hb hv, (hb.frozen (p := ⟨b, _, none⟩) (ltCell hv)).trans hf⟩, cellLater hb h3, h4.later hb⟩
theorem SoftR.later {lo hi : Nat} {W W' : World} {a : Option Addr} {len : Nat} {n : Nat → Nat} (h : SoftR lo hi W a len n) (hb : Below W.heap.size W W') : SoftR lo hi W' a len n := fun j hj => by
  obtain ⟨b, off, la, lc, e, h0, h1, h3, h4⟩ := h j hj
  exact ⟨b, off, la, lc, e, h0, h1, cellLater hb h3, h4.later hb⟩
theorem SoftT.mid {lo hi lo' hi' : Nat} {W W' : World} {a : Option Addr} {len : Nat} {nl : Nat → Nat} (h : SoftT lo hi W a len nl) (hm : Mid lo' hi' W W') (hlo : hi' ≤ lo) : SoftT lo hi W' a len nl := fun j hj => by
  obtain ⟨b, off, la, lc, e, h0, h1, h2, h3, h4⟩ := h j hj
  exact ⟨b, off, la, lc, e, h0, h1, fun c hc => by obtain ⟨v, hv, hf⟩ := h2 c hc; exact hm.keeps _ _ _ hv hf, hm.cellAbove (by omega) h3, h4.mid hm⟩
theorem SoftR.mid {lo hi lo' hi' : Nat} {W W' : World} {a : Option Addr} {len : Nat} {n : Nat → Nat} (h : SoftR lo hi W a len n) (hm : Mid lo' hi' W W') (hlo : hi' ≤ lo) : SoftR lo hi W' a len n := fun j hj => by
  obtain ⟨b, off, la, lc, e, h0, h1, h3, h4⟩ := h j hj
  exact ⟨b, off, la, lc, e, h0, h1, hm.cellAbove (by omega) h3, h4.mid hm⟩
theorem SoftR.midBelow {lo hi lo' hi' : Nat} {W W' : World} {a : Option Addr} {len : Nat} {n : Nat → Nat} (h : SoftR lo hi W a len n) (hm : Mid lo' hi' W W') (hlo : hi ≤ lo') : SoftR lo hi W' a len n := fun j hj => by
  obtain ⟨b, off, la, lc, e, h0, h1, h3, h4⟩ := h j hj
  exact ⟨b, off, la, lc, e, h0, h1, hm.cellBelow (by omega) h3, h4.mid hm⟩
theorem SoftT.mono {lo hi lo' hi' : Nat} {W : World} {a : Option Addr} {len : Nat} {nl : Nat → Nat} (h : SoftT lo hi W a len nl) (k0 : lo' ≤ lo) (k1 : hi ≤ hi') : SoftT lo' hi' W a len nl := fun j hj => by
  obtain ⟨b, off, la, lc, e, h0, h1, h2, h3, h4⟩ := h j hj
  exact ⟨b, off, la, lc, e, by omega, by omega, h2, h3, h4.mono (Nat.le_refl _) k1⟩
theorem SoftR.mono {lo hi lo' hi' : Nat} {W : World} {a : Option Addr} {len : Nat} {n : Nat → Nat} (h : SoftR lo hi W a len n) (k0 : lo' ≤ lo) (k1 : hi ≤ hi') : SoftR lo' hi' W a len n := fun j hj => by
  obtain ⟨b, off, la, lc, e, h0, h1, h3, h4⟩ := h j hj
  exact ⟨b, off, la, lc, e, by omega, by omega, h3, h4.mono (Nat.le_refl _) k1⟩

end Go.Proofs.YtelickcfodcmaaaGreatDoor

namespace Go.Proofs.YtelickcfodcmaaaGreatDoor
open Go.RowKit

/-- bytes, as they lie -/
def IsB (W : World) (a : Option Addr) (len : Nat) : Prop := ∀ j, j < len → ∃ b off v, a = some ⟨b, off, none⟩ ∧ W.cell? ⟨b, off + j, none⟩ = some (.int .u8 v) ∧ 0 ≤ v ∧ v ≤ 255
theorem IsB.later {W W' : World} {a : Option Addr} {len : Nat} (h : IsB W a len) (hB : Below W.heap.size W W') : IsB W' a len := fun j hj => by
  obtain ⟨b, off, v, e, hc, h0, h1⟩ := h j hj
  exact ⟨b, off, v, e, cellLater hB hc, h0, h1⟩
/-- the box of choices at block b, behind the world w0 that it was made in; at most k were taken -/
structure Cur (w0 : World) (b k : Nat) (W : World) : Prop where
  base : Below w0.heap.size w0 W
  lo : w0.heap.size ≤ b
  code : ∃ a len cap, W.cell? ⟨b, 0, none⟩ = some (.slice a len cap) ∧ len ≤ 1048576 ∧ IsB w0 a len
  at_ : ∃ x : Int, 0 ≤ x ∧ x ≤ k ∧ W.cell? ⟨b, 1, none⟩ = some (.int .i64 x)
  seed : ∃ y : Int, 0 ≤ y ∧ y < 18446744073709551616 ∧ W.cell? ⟨b, 2, none⟩ = some (.int .u64 y)
  z1 : W.frozen? ⟨b, 1, none⟩ = false
  z2 : W.frozen? ⟨b, 2, none⟩ = false
section
variable {w0 W W' : World} {b k : Nat}
theorem Cur.lt (h : Cur w0 b k W) : b < W.heap.size := by
  obtain ⟨x, _, _, hc⟩ := h.at_
  exact ltCell hc
theorem Cur.same (h : Cur w0 b k W) (hB : Below w0.heap.size w0 W') (hb : W'.heap[b]? = W.heap[b]?) : Cur w0 b k W' := by
  have cc : ∀ o u, W.cell? ⟨b, o, none⟩ = some u → W'.cell? ⟨b, o, none⟩ = some u := fun o u hu => (World.cell?_of_block (w := W) (w' := W') (a := ⟨b, o, none⟩) hb).trans hu
  have zz : ∀ o, W.frozen? ⟨b, o, none⟩ = false → W'.frozen? ⟨b, o, none⟩ = false := fun o hu => (World.frozen?_of_block (w := W) (w' := W') (a := ⟨b, o, none⟩) hb).trans hu
  obtain ⟨a, len, cap, h1, h2⟩ := h.code
  obtain ⟨x, h3, h4, h5⟩ := h.at_
  obtain ⟨y, h6, h7, h8⟩ := h.seed
  exact ⟨hB, h.lo, ⟨a, len, cap, cc 0 _ h1, h2⟩, ⟨x, h3, h4, cc 1 _ h5⟩, ⟨y, h6, h7, cc 2 _ h8⟩, zz 1 h.z1, zz 2 h.z2⟩
theorem Cur.later (h : Cur w0 b k W) (hB : Below W.heap.size W W') : Cur w0 b k W' := h.same (Below.join h.base (Nat.le_refl _) hB) (hB.block b h.lt)
theorem Cur.more (h : Cur w0 b k W) {k' : Nat} (hk : k ≤ k') : Cur w0 b k' W := by
  obtain ⟨x, h3, h4, h5⟩ := h.at_
  exact ⟨h.base, h.lo, h.code, ⟨x, h3, by omega, h5⟩, h.seed, h.z1, h.z2⟩
theorem Cur.step (h : Cur w0 b k W) {x y : Int} (hx : 0 ≤ x) (hx1 : x ≤ k + 1) (hy : 0 ≤ y) (hy1 : y < 18446744073709551616) : Cur w0 b (k + 1) ((W.setCell ⟨b, 1, none⟩ (.int .i64 x)).setCell ⟨b, 2, none⟩ (.int .u64 y)) := by
  obtain ⟨a, len, cap, h1, h2⟩ := h.code
  obtain ⟨x0, _, _, h5⟩ := h.at_
  obtain ⟨y0, _, _, h8⟩ := h.seed
  exact ⟨(h.base.setCell (p := ⟨b, 1, none⟩) h.lo _).setCell (p := ⟨b, 2, none⟩) h.lo _, h.lo, ⟨a, len, cap, (cell_set_ne (by omega)).trans ((cell_set_ne (by omega)).trans h1), h2⟩, ⟨x, hx, by omega, (cell_set_ne (by omega)).trans (World.cell?_setCell_same _ _ _ h5)⟩, ⟨y, hy, hy1, World.cell?_setCell_same _ _ _ ((cell_set_ne (by omega)).trans h8)⟩, by rw [World.frozen?_setCell, World.frozen?_setCell]; exact h.z1, by rw [World.frozen?_setCell, World.frozen?_setCell]; exact h.z2⟩
theorem Cur.step' (h : Cur w0 b k W) {x y : Int} (hx : 0 ≤ x) (hx1 : x ≤ k + 1) (hy : 0 ≤ y) (hy1 : y < 18446744073709551616) : Cur w0 b (k + 1) ((W.setCell ⟨b, 2, none⟩ (.int .u64 y)).setCell ⟨b, 1, none⟩ (.int .i64 x)) := by
  obtain ⟨a, len, cap, h1, h2⟩ := h.code
  obtain ⟨x0, _, _, h5⟩ := h.at_
  obtain ⟨y0, _, _, h8⟩ := h.seed
  exact ⟨(h.base.setCell (p := ⟨b, 2, none⟩) h.lo _).setCell (p := ⟨b, 1, none⟩) h.lo _, h.lo, ⟨a, len, cap, (cell_set_ne (by omega)).trans ((cell_set_ne (by omega)).trans h1), h2⟩, ⟨x, hx, by omega, World.cell?_setCell_same _ _ _ ((cell_set_ne (by omega)).trans h5)⟩, ⟨y, hy, hy1, (cell_set_ne (by omega)).trans (World.cell?_setCell_same _ _ _ h8)⟩, by rw [World.frozen?_setCell, World.frozen?_setCell]; exact h.z1, by rw [World.frozen?_setCell, World.frozen?_setCell]; exact h.z2⟩
end

theorem wrap_u64 (z : Int) : 0 ≤ IntKind.u64.wrap z ∧ IntKind.u64.wrap z < 18446744073709551616 := by
  rw [IntKind.wrap_u64]
  omega
theorem and_255 (z : Int) (h0 : 0 ≤ z) (h1 : z < 18446744073709551616) : 0 ≤ wrap64 (bits .and .u64 (z / 1099511627776) 255) ∧ wrap64 (bits .and .u64 (z / 1099511627776) 255) ≤ 255 := by
  obtain ⟨n, hn⟩ : ∃ n : Nat, z / 1099511627776 = (n : Int) := ⟨(z / 1099511627776).toNat, by omega⟩
  have hb := bits_and_u64_nat n 255 (by omega) (by decide)
  have hle : n &&& 255 ≤ 255 := Nat.and_le_right
  rw [hn, show (255 : Int) = ((255 : Nat) : Int) from rfl, hb]
  unfold wrap64
  omega
set_option maxRecDepth 20000 in
set_option maxHeartbeats 4000000 in
theorem next_any (w0 : World) (b k : Nat) (w : World) (hk : k ≤ 1000000) (hC : Cur w0 b k w) :
    Calls Tryz.prog 56 #[.pointer (some ⟨b, 0, none⟩)] w fun e w' => ∃ x : Int, e = .returned (.int .i64 x) ∧ 0 ≤ x ∧ x ≤ 255 ∧ Cur w0 b (k + 1) w' ∧ Mid b (b + 1) w w' := by
  obtain ⟨a, len, cap, c0, hl, hI⟩ := hC.code
  obtain ⟨x, hx0, hx1, c1⟩ := hC.at_
  obtain ⟨y, hy0, hy1, c2⟩ := hC.seed
  have z1 := hC.z1
  have z2 := hC.z2
  by_cases hlt : x < len
  · obtain ⟨j, rfl⟩ : ∃ j : Nat, x = j := ⟨x.toNat, by omega⟩
    obtain ⟨b', off, v, rfl, cv, hv0, hv1⟩ := hI j (by omega)
    replace cv := cellLater hC.base cv
    go_enter Tryz.func56, Tryz.ntmps56
    go_wp2
    go_region_held3 (fun w' => w'.cell? ⟨b, 0, none⟩ = some (.slice (some ⟨b', off, none⟩) len cap) ∧ w'.cell? ⟨b, 1, none⟩ = some (.int .i64 j)) (first | go_keep) (fail)
    go_wp2
    go_region_held3 (fun w' => w'.cell? ⟨b, 0, none⟩ = some (.slice (some ⟨b', off, none⟩) len cap) ∧ w'.cell? ⟨b, 1, none⟩ = some (.int .i64 j) ∧ w'.cell? ⟨b', off + j, none⟩ = some (.int .u8 v)) (first | go_keep) (fail)
    go_wp2
    go_ret
    exact ⟨v, rfl, hv0, hv1, ((hC.step (by omega) (by omega) (wrap_u64 _).1 (wrap_u64 _).2).later ((Below.refl _ _).drew)).later ((Below.refl _ _).drew), (((Mid.set (Nat.le_refl _) (Nat.lt_succ_self _) _).trans (Mid.set (Nat.le_refl _) (Nat.lt_succ_self _) _)).trans (Mid.ofBelow ((Below.refl _ _).drew) (by simp; exact Nat.le_of_lt hC.lt))).trans (Mid.ofBelow ((Below.refl _ _).drew) (by simp; exact Nat.le_of_lt hC.lt))⟩
  · have hlt' : ¬ (x < (len : Int)) := hlt
    go_enter Tryz.func56, Tryz.ntmps56
    go_wp2
    go_region_held3 (fun w' => w'.cell? ⟨b, 0, none⟩ = some (.slice a len cap) ∧ w'.cell? ⟨b, 1, none⟩ = some (.int .i64 x)) (first | go_keep) (fail)
    go_wp2
    go_ret
    obtain ⟨r0, r1⟩ := and_255 _ (wrap_u64 (IntKind.u64.wrap (y * 6364136223846793005) + 1442695040888963407)).1 (wrap_u64 (IntKind.u64.wrap (y * 6364136223846793005) + 1442695040888963407)).2
    exact ⟨_, rfl, r0, r1, (hC.step' (by omega) (by omega) (wrap_u64 _).1 (wrap_u64 _).2).later ((Below.refl _ _).drew), ((Mid.set (Nat.le_refl _) (Nat.lt_succ_self _) _).trans (Mid.set (Nat.le_refl _) (Nat.lt_succ_self _) _)).trans (Mid.ofBelow ((Below.refl _ _).drew) (by simp; exact Nat.le_of_lt hC.lt))⟩
end Go.Proofs.YtelickcfodcmaaaGreatDoor

namespace Go.Proofs.YtelickcfodcmaaaGreatDoor
open Go.RowKit

theorem rem_small {x n : Int} (hn : 1 < n) : 0 ≤ x % n ∧ x % n < n := ⟨Int.emod_nonneg _ (by omega), Int.emod_lt_of_pos _ (by omega)⟩
set_option maxHeartbeats 2000000 in
theorem pick_any (w0 : World) (b k : Nat) (n : Int) (w : World) (hk : k ≤ 900000) (hn : n ≤ 100000) (hC : Cur w0 b k w) :
    Calls Tryz.prog 21 #[.pointer (some ⟨b, 0, none⟩), .int .i64 n] w fun e w' => ∃ x : Int, e = .returned (.int .i64 x) ∧ 0 ≤ x ∧ (x < n ∨ x = 0) ∧ Cur w0 b (k + 2) w' ∧ Mid b (b + 1) w w' := by
  by_cases h1 : n ≤ 1
  · go_enter Tryz.func21, Tryz.ntmps21
    go_wp2
    go_ret
    exact ⟨0, rfl, Int.le_refl _, Or.inr rfl, hC.more (by omega), Mid.refl _ _ _⟩
  · have hN := next_any w0 b k w (by omega) hC
    have hn0 : n ≠ 0 := by omega
    by_cases h2 : 200 < n
    · go_enter Tryz.func21, Tryz.ntmps21
      go_wp2_with (go_at_call 56; refine hN.mono ?_; rintro _ w1 ⟨x, rfl, hx0, hx1, hC1, hM1⟩)
      refine (next_any w0 b (k + 1) w1 (by omega) hC1).mono ?_
      rintro _ w2 ⟨y, rfl, hy0, hy1, hC2, hM2⟩
      go_wp2
      go_ret
      obtain ⟨r0, r1⟩ := rem_small (x := x * 256 + y) (show 1 < n by omega)
      exact ⟨_, rfl, r0, Or.inl r1, hC2, hM1.trans hM2⟩
    · go_enter Tryz.func21, Tryz.ntmps21
      go_wp2_with (go_at_call 56; refine hN.mono ?_; rintro _ w1 ⟨x, rfl, hx0, hx1, hC1, hM1⟩)
      go_ret
      obtain ⟨r0, r1⟩ := rem_small (x := x) (show 1 < n by omega)
      exact ⟨_, rfl, r0, Or.inl r1, hC1.more (by omega), hM1⟩
end Go.Proofs.YtelickcfodcmaaaGreatDoor

namespace Go.Proofs.YtelickcfodcmaaaGreatDoor
open Go.RowKit

/-- a text of these bytes -/
def ba (l : List UInt8) : ByteArray := ⟨l.toArray⟩
theorem ba_size (l : List UInt8) : (ba l).size = l.length := by show l.toArray.size = _; simp
theorem ba_append (l m : List UInt8) : ba l ++ ba m = ba (l ++ m) := by unfold ba; rw [ByteArray.mk_append_mk]
theorem ba_list (l : List UInt8) : (ba l).data.toList = l := by simp [ba]
theorem ba_of (s : ByteArray) : ba s.data.toList = s := by unfold ba; cases s; simp
theorem add_ba (l m : List UInt8) (h : l.length + m.length ≤ 1000000) (w : World) : (Op.stringOp .add (ba l) (ba m)).run Tryz.prog w = .ok (.string (ba (l ++ m))) w := by
  rw [run_string_add_sum w _ _ (by rw [ba_size, ba_size]; omega), ba_append]

theorem nDigits_le : ∀ (k u : Nat), u < 10 ^ (k + 1) → Lib.nDigits u ≤ k + 1
  | 0, u, h => by rw [Lib.nDigits_small (by simpa using h)]; omega
  | k + 1, u, h => by
    by_cases hu : u < 10
    · rw [Lib.nDigits_small hu]; omega
    · rw [Lib.nDigits_big hu]
      have := nDigits_le k (u / 10) (by rw [Nat.pow_succ] at h; exact Nat.div_lt_of_lt_mul (by rw [Nat.mul_comm]; exact h))
      omega
theorem itoa_len {n : Int} (h0 : 0 ≤ n) (h1 : n ≤ 99999999) : (Lib.itoa n).length ≤ 8 := by
  unfold Lib.itoa
  rw [if_neg (by omega), Lib.decDigits_length]
  exact nDigits_le 7 _ (by have : n.toNat < 100000000 := by omega
                           simpa using this)

/-- the row of the tracks, up to a station -/
def tracksT (g : Nat → Int) : Nat → List UInt8
  | 0 => [116, 114, 97, 99, 107, 115]
  | k + 1 => tracksT g k ++ (32 :: Lib.itoa (g k))
def gapT (gap : Int) : List UInt8 := [10, 103, 97, 112, 32] ++ Lib.itoa gap ++ [10]
def legT (x : LegD) : List UInt8 := [108, 101, 103, 32] ++ Lib.itoa x.to ++ [32, 114, 117, 110, 32] ++ Lib.itoa x.run ++ [32, 115, 116, 97, 121, 32] ++ Lib.itoa x.stay ++ [10]
def trainT (t : TrainD) : List UInt8 := [116, 114, 97, 105, 110, 32] ++ Lib.itoa t.frm ++ [32, 114, 101, 97, 100, 121, 32] ++ Lib.itoa t.ready ++ [32, 100, 117, 101, 32] ++ Lib.itoa t.due ++ [32, 119, 101, 105, 103, 104, 116, 32] ++ Lib.itoa t.weight ++ [10]
def legsT (t : TrainD) (b : List UInt8) : Nat → List UInt8
  | 0 => b
  | m + 1 => legsT t b m ++ legT (t.leg m)
def trainsT (f : Nat → TrainD) (b : List UInt8) : Nat → List UInt8
  | 0 => b
  | j + 1 => legsT (f j) (trainsT f b j ++ trainT (f j)) (f j).nl
def headT (len : Nat) (g : Nat → Int) (gap : Int) : List UInt8 := tracksT g len ++ gapT gap
def lineT (len : Nat) (g : Nat → Int) (gap : Int) (np : Nat) (f : Nat → TrainD) : List UInt8 := trainsT f (headT len g gap) np

/-- the numbers of a right line, as they bound a text -/
structure SmallL (len : Nat) (g : Nat → Int) (gap : Int) (np : Nat) (f : Nat → TrainD) : Prop where
  l12 : len ≤ 12
  l1 : 1 ≤ len
  n5 : np ≤ 5
  tk : ∀ k, k < len → 0 ≤ g k ∧ g k ≤ 99999999
  gp : 0 ≤ gap ∧ gap ≤ 99999999
  tr : ∀ j, j < np → ((0 ≤ (f j).frm ∧ (f j).frm ≤ 99999999) ∧ (0 ≤ (f j).ready ∧ (f j).ready ≤ 99999999) ∧ (0 ≤ (f j).due ∧ (f j).due ≤ 99999999) ∧ (0 ≤ (f j).weight ∧ (f j).weight ≤ 99999999)) ∧ (f j).nl ≤ 10
  leg : ∀ j, j < np → ∀ m, m < (f j).nl → (0 ≤ ((f j).leg m).to ∧ ((f j).leg m).to ≤ 99999999) ∧ (0 ≤ ((f j).leg m).run ∧ ((f j).leg m).run ≤ 99999999) ∧ (0 ≤ ((f j).leg m).stay ∧ ((f j).leg m).stay ≤ 99999999)

theorem smallL_of {len : Nat} {g : Nat → Int} {gap : Int} {np : Nat} {f : Nat → TrainD} (h : faultOf len g gap np f = (0, 0)) : SmallL len g gap np f := by
  have hR := rightL_of h
  have hG := rightG_of h
  have hst := hR.st
  have hst0 := hG.st0
  have hg0 := hG.g0
  have hg1 := hG.g1
  refine ⟨hR.st, by omega, hR.tr, fun k hk => ?_, by omega, fun j hj => ?_, fun j hj m hm => ?_⟩
  · have := hG.room k hk; omega
  · have h1 := hR.train j hj
    have h2 := hG.frm j hj
    have h3 := h1.r0
    have h4 := h1.r1
    have h5 := h1.d0
    have h6 := h1.d1
    have h7 := h1.w0
    have h8 := h1.w1
    exact ⟨⟨by omega, by omega, by omega, by omega⟩, h1.nl⟩
  · have h1 := (hR.train j hj).leg m hm
    have h2 := hR.to j hj m hm
    exact ⟨by omega, by omega, by omega⟩

theorem tracksT_len {len : Nat} {g : Nat → Int} (h : ∀ k, k < len → 0 ≤ g k ∧ g k ≤ 99999999) : ∀ k, k ≤ len → (tracksT g k).length ≤ 6 + 9 * k
  | 0, _ => by simp [tracksT]
  | k + 1, hk => by
    have h1 := tracksT_len h k (by omega)
    have h2 := itoa_len (h k (by omega)).1 (h k (by omega)).2
    simp only [tracksT, List.length_append, List.length_cons]; omega
theorem gapT_len {gap : Int} (h : 0 ≤ gap ∧ gap ≤ 99999999) : (gapT gap).length ≤ 14 := by
  have := itoa_len h.1 h.2
  simp only [gapT, List.length_append, List.length_cons, List.length_nil]; omega
theorem legT_len {x : LegD} (h : (0 ≤ x.to ∧ x.to ≤ 99999999) ∧ (0 ≤ x.run ∧ x.run ≤ 99999999) ∧ (0 ≤ x.stay ∧ x.stay ≤ 99999999)) : (legT x).length ≤ 40 := by
  have h1 := itoa_len h.1.1 h.1.2
  have h2 := itoa_len h.2.1.1 h.2.1.2
  have h3 := itoa_len h.2.2.1 h.2.2.2
  simp only [legT, List.length_append, List.length_cons, List.length_nil]; omega
theorem trainT_len {t : TrainD} (h : (0 ≤ t.frm ∧ t.frm ≤ 99999999) ∧ (0 ≤ t.ready ∧ t.ready ≤ 99999999) ∧ (0 ≤ t.due ∧ t.due ≤ 99999999) ∧ (0 ≤ t.weight ∧ t.weight ≤ 99999999)) : (trainT t).length ≤ 60 := by
  have h1 := itoa_len h.1.1 h.1.2
  have h2 := itoa_len h.2.1.1 h.2.1.2
  have h3 := itoa_len h.2.2.1.1 h.2.2.1.2
  have h4 := itoa_len h.2.2.2.1 h.2.2.2.2
  simp only [trainT, List.length_append, List.length_cons, List.length_nil]; omega
theorem legsT_len {t : TrainD} {b : List UInt8} (h : ∀ m, m < t.nl → (legT (t.leg m)).length ≤ 40) : ∀ m, m ≤ t.nl → (legsT t b m).length ≤ b.length + 40 * m
  | 0, _ => by simp [legsT]
  | m + 1, hm => by
    have h1 := legsT_len (b := b) h m (by omega)
    have h2 := h m (by omega)
    simp only [legsT, List.length_append]; omega
theorem headT_len {len : Nat} {g : Nat → Int} {gap : Int} {np : Nat} {f : Nat → TrainD} (h : SmallL len g gap np f) : (headT len g gap).length ≤ 200 := by
  have h1 := tracksT_len h.tk len (Nat.le_refl _)
  have h2 := gapT_len h.gp
  have h3 := h.l12
  unfold headT
  rw [List.length_append]
  omega
theorem trainsT_len {len : Nat} {g : Nat → Int} {gap : Int} {np : Nat} {f : Nat → TrainD} {b : List UInt8} (h : SmallL len g gap np f) : ∀ j, j ≤ np → (trainsT f b j).length ≤ b.length + 460 * j
  | 0, _ => by simp [trainsT]
  | j + 1, hj => by
    have h1 := trainsT_len (b := b) h j (by omega)
    obtain ⟨h2, h3⟩ := h.tr j (by omega)
    have h4 := trainT_len h2
    have h5 := legsT_len (t := f j) (b := trainsT f b j ++ trainT (f j)) (fun m hm => legT_len (h.leg j (by omega) m hm)) (f j).nl (Nat.le_refl _)
    rw [List.length_append] at h5
    simp only [trainsT]; omega

/-! ### a row, by its words -/
def partsOf (ws : List (List UInt8)) (ns : Nat → Int) : Nat → List (List UInt8)
  | 0 => []
  | i + 1 => (if i < ws.length then partsOf ws ns i ++ [ws.getD i []] else partsOf ws ns i) ++ [Lib.itoa (ns i)]
def rowT (ws : List (List UInt8)) (ns : Nat → Int) (n : Nat) : List UInt8 := Lib.join (partsOf ws ns n) [32] ++ [10]
def wordsOf : Nat → List (List UInt8)
  | 0 => [[116, 114, 97, 99, 107, 115]]
  | 1 => [[103, 97, 112]]
  | 2 => [[116, 114, 97, 105, 110], [114, 101, 97, 100, 121], [100, 117, 101], [119, 101, 105, 103, 104, 116]]
  | _ => [[108, 101, 103], [114, 117, 110], [115, 116, 97, 121]]
theorem join_snoc {l : List (List UInt8)} (x sep : List UInt8) (h : l ≠ []) : Lib.join (l ++ [x]) sep = Lib.join l sep ++ (sep ++ x) := by
  cases l with
  | nil => exact absurd rfl h
  | cons y r => rw [List.cons_append, Lib.join_cons, Lib.join_cons]; simp [Lib.joinTail, List.append_assoc]
theorem partsOf_ne (ws : List (List UInt8)) (ns : Nat → Int) (i : Nat) : partsOf ws ns (i + 1) ≠ [] := by simp [partsOf]
theorem join_tracks (g : Nat → Int) : ∀ k, Lib.join (partsOf (wordsOf 0) g (k + 1)) [32] = tracksT g (k + 1)
  | 0 => by simp [partsOf, wordsOf, Lib.join_cons, Lib.joinTail, tracksT]
  | k + 1 => by
    rw [partsOf, if_neg (by simp [wordsOf]), join_snoc _ _ (partsOf_ne _ _ _), join_tracks g k]
    rfl
theorem rowT_tracks (g : Nat → Int) {n : Nat} (h : 1 ≤ n) : rowT (wordsOf 0) g n = tracksT g n ++ [10] := by
  obtain ⟨k, rfl⟩ : ∃ k, n = k + 1 := ⟨n - 1, by omega⟩
  unfold rowT
  rw [join_tracks]
theorem rowT_gap (gap : Int) : rowT (wordsOf 1) (fun i => [gap].getD i 0) 1 = [103, 97, 112, 32] ++ Lib.itoa gap ++ [10] := by
  simp [rowT, partsOf, wordsOf, Lib.join_cons, Lib.joinTail]
theorem rowT_train (t : TrainD) : rowT (wordsOf 2) (fun i => [t.frm, t.ready, t.due, t.weight].getD i 0) 4 = trainT t := by
  simp [rowT, partsOf, wordsOf, Lib.join_cons, Lib.joinTail, trainT]
theorem rowT_leg (x : LegD) : rowT (wordsOf 3) (fun i => [x.to, x.run, x.stay].getD i 0) 3 = legT x := by
  simp [rowT, partsOf, wordsOf, Lib.join_cons, Lib.joinTail, legT]
theorem head_eq {len : Nat} (g : Nat → Int) (gap : Int) (h : 1 ≤ len) : rowT (wordsOf 0) g len ++ rowT (wordsOf 1) (fun i => [gap].getD i 0) 1 = headT len g gap := by
  rw [rowT_tracks g h, rowT_gap]
  simp [headT, gapT, List.append_assoc]
def strCells (L : List (List UInt8)) : List Value := L.map fun l => .string (ba l)
theorem strCells_len (L : List (List UInt8)) : (strCells L).length = L.length := by simp [strCells]
theorem strCells_app (L M : List (List UInt8)) : strCells (L ++ M) = strCells L ++ strCells M := by simp [strCells]
theorem strCells_at (L : List (List UInt8)) (j : Nat) (x : List UInt8) (h : L[j]? = some x) : (strCells L)[j]? = some (.string (ba x)) := by simp [strCells, h]
theorem partsOf_len (ws : List (List UInt8)) (ns : Nat → Int) : ∀ i, (partsOf ws ns i).length ≤ 2 * i
  | 0 => by simp [partsOf]
  | i + 1 => by
    have := partsOf_len ws ns i
    unfold partsOf
    split <;> simp only [List.length_append, List.length_cons, List.length_nil] <;> omega
end Go.Proofs.YtelickcfodcmaaaGreatDoor

namespace Go.Proofs.YtelickcfodcmaaaGreatDoor
open Go.RowKit

abbrev Bs := List UInt8
def dig (b : UInt8) : Bool := decide (48 ≤ b.toNat) && decide (b.toNat ≤ 57)
def numVal (l : Bs) : Int := l.foldl (fun n b => 10 * n + ((b.toNat : Int) - 48)) 0
def numOk (l : Bs) : Bool := l.all dig && decide (0 < l.length) && decide (l.length ≤ 7) && (decide (l.length = 1) || !(l.head? == some 48))
/-- a line, cut at each of its blanks -/
def cutB : Bs → List Bs
  | [] => [[]]
  | b :: t => if b = 32 then [] :: cutB t else match cutB t with
    | x :: xs => (b :: x) :: xs
    | [] => [[b]]
/-- what stands in a pattern -/
inductive Tok where
  | word (w : Bs)
  | num
def tokOk : Tok → Bs → Option (List Int)
  | .word w, x => if x = w then some [] else none
  | .num, x => if numOk x then some [numVal x] else none
def likeB : List Tok → List Bs → Option (List Int)
  | [], [] => some []
  | t :: ts, x :: xs => (tokOk t x).bind fun a => (likeB ts xs).map fun b => a ++ b
  | [], _ :: _ => none
  | _ :: _, [] => none
/-- piece by piece -/
def takeB (p s : Bs) : Option Bs := if p.isPrefixOf s then some (s.drop p.length) else none
def numB (s : Bs) : Option (List Int × Bs) := if numOk (s.takeWhile dig) then some ([numVal (s.takeWhile dig)], s.drop (s.takeWhile dig).length) else none
def tokB : Tok → Bs → Option (List Int × Bs)
  | .word w, s => (takeB w s).map fun r => ([], r)
  | .num, s => numB s
/-- each behind a blank, and the row's end -/
def restB : List Tok → Bs → Option (List Int × Bs)
  | [], s => (takeB [10] s).map fun r => ([], r)
  | t :: ts, s => (takeB [32] s).bind fun r => (tokB t r).bind fun x => (restB ts x.2).map fun y => (x.1 ++ y.1, y.2)
def rowB : List Tok → Bs → Option (List Int × Bs)
  | [], s => restB [] s
  | t :: ts, s => (tokB t s).bind fun x => (restB ts x.2).map fun y => (x.1 ++ y.1, y.2)

theorem tokOk_word (w x : Bs) : tokOk (.word w) x = if x = w then some [] else none := rfl
theorem tokOk_num (x : Bs) : tokOk .num x = if numOk x then some [numVal x] else none := rfl
theorem tokB_word (w s : Bs) : tokB (.word w) s = (takeB w s).map fun r => ([], r) := rfl
theorem tokB_num (s : Bs) : tokB .num s = numB s := rfl

/-- no blank, no newline -/
def Free (x : Bs) : Prop := ∀ b ∈ x, b ≠ 32 ∧ b ≠ 10
def Good : Tok → Prop
  | .word w => Free w
  | .num => True

theorem takeB_one (c d : UInt8) (s : Bs) : takeB [c] (d :: s) = if c = d then some s else none := by
  unfold takeB
  by_cases h : c = d
  · subst h; simp
  · simp [h]
theorem dig_free {b : UInt8} (h : dig b = true) : b ≠ 32 ∧ b ≠ 10 := by
  constructor <;> (rintro rfl; revert h; decide)

theorem prefix_case {w x : Bs} {e : UInt8} {r : Bs} (hw : Free w) (he : e = 32 ∨ e = 10) (h : w <+: x ++ e :: r) : ∃ y, x = w ++ y := by
  induction w generalizing x with
  | nil => exact ⟨x, rfl⟩
  | cons b w ih =>
    cases x with
    | nil =>
      rw [List.nil_append, List.cons_prefix_cons] at h
      have := hw b (List.mem_cons_self ..)
      rcases he with rfl | rfl <;> simp_all
    | cons c x =>
      rw [List.cons_append, List.cons_prefix_cons] at h
      obtain ⟨y, rfl⟩ := ih (fun b hb => hw b (List.mem_cons_of_mem _ hb)) h.2
      exact ⟨y, by rw [h.1]; rfl⟩

theorem takeWhile_free {x : Bs} {e : UInt8} {r : Bs} (he : e = 32 ∨ e = 10) : (x ++ e :: r).takeWhile dig = x.takeWhile dig := by
  have hd : dig e = false := by rcases he with rfl | rfl <;> decide
  induction x with
  | nil => simp [List.takeWhile, hd]
  | cons b x ih =>
    rw [List.cons_append, List.takeWhile_cons, List.takeWhile_cons]
    split
    · rw [ih]
    · rfl
theorem takeWhile_all {x : Bs} (h : x.all dig = true) : x.takeWhile dig = x := by
  induction x with
  | nil => rfl
  | cons b x ih =>
    rw [List.all_cons, Bool.and_eq_true] at h
    rw [List.takeWhile_cons, if_pos h.1, ih h.2]
theorem takeWhile_split (x : Bs) : ∃ y, x = x.takeWhile dig ++ y ∧ (y = [] → x.takeWhile dig = x) := by
  refine ⟨x.dropWhile dig, (List.takeWhile_append_dropWhile ..).symm, fun h => ?_⟩
  have := List.takeWhile_append_dropWhile (p := dig) (l := x)
  rw [h, List.append_nil] at this
  exact this

/-- one piece, at a word that ends at e -/
theorem tokB_at {t : Tok} {x : Bs} {e : UInt8} {r : Bs} (ht : Good t) (hx : Free x) (he : e = 32 ∨ e = 10) :
    (∃ a, tokOk t x = some a ∧ tokB t (x ++ e :: r) = some (a, e :: r)) ∨ (tokOk t x = none ∧ (tokB t (x ++ e :: r) = none ∨ ∃ a c s, tokB t (x ++ e :: r) = some (a, c :: s) ∧ c ≠ 32 ∧ c ≠ 10)) := by
  cases t with
  | word w =>
    by_cases h : w <+: x ++ e :: r
    · have hp : w.isPrefixOf (x ++ e :: r) = true := List.isPrefixOf_iff_prefix.2 h
      obtain ⟨y, rfl⟩ := prefix_case ht he h
      have hb : tokB (.word w) (w ++ y ++ e :: r) = some ([], y ++ e :: r) := by
        rw [tokB_word]; unfold takeB
        rw [if_pos hp, List.append_assoc, List.drop_left]
        rfl
      cases y with
      | nil => exact Or.inl ⟨[], by simp [tokOk], by rw [hb]; rfl⟩
      | cons c y =>
        have hc := hx c (by simp)
        exact Or.inr ⟨by simp [tokOk], Or.inr ⟨[], c, y ++ e :: r, hb, hc⟩⟩
    · have hp : w.isPrefixOf (x ++ e :: r) = false := by
        rw [Bool.eq_false_iff]; exact fun hh => h (List.isPrefixOf_iff_prefix.1 hh)
      refine Or.inr ⟨?_, Or.inl ?_⟩
      · rw [tokOk_word]
        rw [if_neg]
        rintro rfl
        exact h (List.prefix_append _ _)
      · rw [tokB_word]; unfold takeB
        rw [hp]
        rfl
  | num =>
    have htw : (x ++ e :: r).takeWhile dig = x.takeWhile dig := takeWhile_free he
    obtain ⟨y, hy, hy0⟩ := takeWhile_split x
    by_cases hn : numOk (x.takeWhile dig) = true
    · have hb : tokB .num (x ++ e :: r) = some ([numVal (x.takeWhile dig)], y ++ e :: r) := by
        rw [tokB_num]; unfold numB
        rw [htw, if_pos hn]
        congr 2
        conv => lhs; arg 2; rw [hy]
        rw [List.append_assoc, List.drop_left]
      cases y with
      | nil =>
        have e0 := hy0 rfl
        rw [e0] at hn hb
        exact Or.inl ⟨[numVal x], by simp [tokOk, hn], by rw [hb]; rfl⟩
      | cons c y =>
        have hc := hx c (by rw [hy]; simp)
        refine Or.inr ⟨?_, Or.inr ⟨_, c, y ++ e :: r, hb, hc⟩⟩
        rw [tokOk_num]
        rw [if_neg]
        intro hk
        unfold numOk at hk
        simp only [Bool.and_eq_true] at hk
        have := takeWhile_all hk.1.1.1
        rw [this] at hy
        have := congrArg List.length hy
        simp at this
    · refine Or.inr ⟨?_, Or.inl ?_⟩
      · rw [tokOk_num]
        rw [if_neg]
        intro hk
        have hk' := hk
        unfold numOk at hk'
        simp only [Bool.and_eq_true] at hk'
        rw [takeWhile_all hk'.1.1.1] at hn
        exact hn hk
      · rw [tokB_num]; unfold numB
        rw [htw, if_neg hn]

/-- the rest of a line, its words apart -/
def tailT : List Bs → Bs → Bs
  | [], r => 10 :: r
  | x :: xs, r => 32 :: (x ++ tailT xs r)
theorem tailT_head (xs : List Bs) (r : Bs) : ∃ e s, tailT xs r = e :: s ∧ (e = 32 ∨ e = 10) := by
  cases xs with
  | nil => exact ⟨10, r, rfl, Or.inr rfl⟩
  | cons x xs => exact ⟨32, _, rfl, Or.inl rfl⟩
theorem restB_other {ts : List Tok} {c : UInt8} {s : Bs} (h : c ≠ 32 ∧ c ≠ 10) : restB ts (c :: s) = none := by
  cases ts with
  | nil => simp [restB, takeB_one, h.2.symm]
  | cons t ts => simp [restB, takeB_one, h.1.symm]
theorem restB_tail (ts : List Tok) (xs : List Bs) (r : Bs) (ht : ∀ t ∈ ts, Good t) (hx : ∀ x ∈ xs, Free x) : restB ts (tailT xs r) = (likeB ts xs).map fun a => (a, r) := by
  induction ts generalizing xs with
  | nil =>
    cases xs with
    | nil => simp [restB, tailT, takeB_one, likeB]
    | cons x xs => simp [restB, tailT, takeB_one, likeB]
  | cons t ts ih =>
    cases xs with
    | nil => simp [restB, tailT, takeB_one, likeB]
    | cons x xs =>
      have h1 := ih xs (fun t h => ht t (List.mem_cons_of_mem _ h)) (fun x h => hx x (List.mem_cons_of_mem _ h))
      obtain ⟨e, s, hs, he⟩ := tailT_head xs r
      rw [tailT, restB, takeB_one, if_pos rfl, hs, likeB]
      rw [hs] at h1
      show (tokB t (x ++ e :: s)).bind _ = _
      rcases tokB_at (r := s) (ht t (List.mem_cons_self ..)) (hx x (List.mem_cons_self ..)) he with ⟨a, h2, h3⟩ | ⟨h2, h3 | ⟨a, c, q, h3, hc⟩⟩
      · rw [h2, h3]
        show (restB ts (e :: s)).map _ = ((likeB ts xs).map _).map _
        rw [h1]
        cases likeB ts xs <;> rfl
      · rw [h2, h3]; rfl
      · rw [h2, h3]
        show (restB ts (c :: q)).map _ = none
        rw [restB_other hc]
        rfl
theorem rowB_line (ts : List Tok) (x : Bs) (xs : List Bs) (r : Bs) (h0 : ts ≠ []) (ht : ∀ t ∈ ts, Good t) (hx : ∀ y ∈ x :: xs, Free y) : rowB ts (x ++ tailT xs r) = (likeB ts (x :: xs)).map fun a => (a, r) := by
  have h := restB_tail ts (x :: xs) r ht hx
  cases ts with
  | nil => exact absurd rfl h0
  | cons t ts =>
    rw [← h, tailT, restB, takeB_one, if_pos rfl]
    rfl
/-- a line, cut: put together again -/
theorem cutB_line (l r : Bs) (h : ∀ b ∈ l, b ≠ 10) : ∃ x xs, cutB l = x :: xs ∧ l ++ 10 :: r = x ++ tailT xs r ∧ ∀ y ∈ x :: xs, Free y := by
  induction l with
  | nil => exact ⟨[], [], rfl, rfl, fun y hy => by rw [List.mem_singleton.1 hy]; exact fun b hb => by cases hb⟩
  | cons b t ih =>
    obtain ⟨x, xs, hc, he, hf⟩ := ih (fun b hb => h b (List.mem_cons_of_mem _ hb))
    by_cases hb : b = 32
    · subst hb
      refine ⟨[], x :: xs, by simp [cutB, hc], by rw [List.cons_append, he]; rfl, fun y hy => ?_⟩
      rcases List.mem_cons.1 hy with rfl | hy
      · exact fun b hb => by cases hb
      · exact hf y hy
    · refine ⟨b :: x, xs, by simp [cutB, hc, hb], by rw [List.cons_append, he]; rfl, fun y hy => ?_⟩
      rcases List.mem_cons.1 hy with rfl | hy
      · intro d hd
        rcases List.mem_cons.1 hd with rfl | hd
        · exact ⟨hb, h d (List.mem_cons_self ..)⟩
        · exact hf x (List.mem_cons_self ..) d hd
      · exact hf y (List.mem_cons_of_mem _ hy)
/-- the meeting point: a row, piece by piece, is the line cut at its blanks -/
theorem rowB_cut (ts : List Tok) (l r : Bs) (h0 : ts ≠ []) (ht : ∀ t ∈ ts, Good t) (h : ∀ b ∈ l, b ≠ 10) : rowB ts (l ++ 10 :: r) = (likeB ts (cutB l)).map fun a => (a, r) := by
  obtain ⟨x, xs, hc, he, hf⟩ := cutB_line l r h
  rw [hc, he]
  exact rowB_line ts x xs r h0 ht hf

theorem takeB_sub {p s r : Bs} (h : takeB p s = some r) : s = p ++ r := by
  unfold takeB at h
  split at h
  · rename_i hp
    obtain ⟨q, rfl⟩ := List.isPrefixOf_iff_prefix.1 hp
    rw [List.drop_left] at h
    rw [Option.some.inj h]
  · cases h
theorem tokB_sub {t : Tok} {s r : Bs} {a : List Int} (h : tokB t s = some (a, r)) : ∃ p, s = p ++ r := by
  cases t with
  | word w =>
    rw [tokB_word] at h
    cases e : takeB w s with
    | none => rw [e] at h; cases h
    | some q => rw [e] at h; cases h; exact ⟨w, takeB_sub e⟩
  | num =>
    rw [tokB_num] at h; unfold numB at h
    split at h
    · simp only [Option.some.injEq, Prod.mk.injEq] at h
      exact ⟨s.take (s.takeWhile dig).length, by rw [← h.2, List.take_append_drop]⟩
    · cases h
theorem restB_newline {ts : List Tok} {s r : Bs} {a : List Int} (h : restB ts s = some (a, r)) : 10 ∈ s := by
  induction ts generalizing s a with
  | nil =>
    unfold restB at h
    cases e : takeB [10] s with
    | none => rw [e] at h; cases h
    | some q => rw [takeB_sub e]; simp
  | cons t ts ih =>
    unfold restB at h
    cases e : takeB [32] s with
    | none => rw [e] at h; cases h
    | some q =>
      rw [e] at h
      cases e2 : tokB t q with
      | none => simp [e2] at h
      | some x =>
        obtain ⟨b, q2⟩ := x
        cases e3 : restB ts q2 with
        | none => simp [e2, e3] at h
        | some y =>
          obtain ⟨p, rfl⟩ := tokB_sub e2
          have := ih (s := q2) (a := y.1) (by
            obtain ⟨y1, y2⟩ := y
            simp [e2, e3] at h
            rw [e3, h.2])
          rw [takeB_sub e]
          simp [this]
/-- without a newline there is no row -/
theorem rowB_none (ts : List Tok) (s : Bs) (h : 10 ∉ s) : rowB ts s = none := by
  cases e : rowB ts s with
  | none => rfl
  | some x =>
    obtain ⟨a, r⟩ := x
    cases ts with
    | nil => exact absurd (restB_newline e) h
    | cons t ts =>
      unfold rowB at e
      cases e2 : tokB t s with
      | none => simp [e2] at e
      | some x =>
        obtain ⟨b, q⟩ := x
        cases e3 : restB ts q with
        | none => simp [e2, e3] at e
        | some y =>
          obtain ⟨y1, y2⟩ := y
          obtain ⟨p, rfl⟩ := tokB_sub e2
          exact absurd (List.mem_append_right p (restB_newline e3)) h
end Go.Proofs.YtelickcfodcmaaaGreatDoor

namespace Go.Proofs.YtelickcfodcmaaaGreatDoor
open Go.RowKit

theorem dig_range {b : UInt8} (h : dig b = true) : 48 ≤ b.toNat ∧ b.toNat ≤ 57 := by
  unfold dig at h
  simpa using h
def natVal (acc : Nat) (l : Bs) : Nat := l.foldl (fun n b => n * 10 + (b.toNat - 48)) acc
theorem natVal_snoc (acc : Nat) (x : Bs) (b : UInt8) : natVal acc (x ++ [b]) = natVal acc x * 10 + (b.toNat - 48) := by
  unfold natVal
  rw [List.foldl_append]
  rfl
theorem numVal_nat (l : Bs) (h : l.all dig = true) : numVal l = (natVal 0 l : Int) := by
  unfold numVal natVal
  suffices ∀ (acc : Nat), l.foldl (fun n b => 10 * n + ((b.toNat : Int) - 48)) (acc : Int) = ((l.foldl (fun n b => n * 10 + (b.toNat - 48)) acc : Nat) : Int) from this 0
  induction l with
  | nil => exact fun _ => rfl
  | cons b l ih =>
    intro acc
    rw [List.all_cons, Bool.and_eq_true] at h
    have hb := dig_range h.1
    rw [List.foldl_cons, List.foldl_cons, ← ih h.2]
    congr 1
    omega
theorem parse_digits (l : Bs) : ∀ (acc j : Nat), l.all dig = true → acc < 10 ^ j → j + l.length ≤ 17 → Lib.parseUint10 acc l = .ok (natVal acc l) ∧ natVal acc l < 10 ^ (j + l.length) := by
  induction l with
  | nil => exact fun acc j _ ha _ => ⟨rfl, ha⟩
  | cons b l ih =>
    intro acc j h ha hj
    rw [List.all_cons, Bool.and_eq_true] at h
    rw [List.length_cons] at hj
    have hb := dig_range h.1
    have h1 : 10 ^ j ≤ 10 ^ 16 := Nat.pow_le_pow_right (by decide) (by omega)
    have h2 : (10 : Nat) ^ 16 = 10000000000000000 := by decide
    have h3 : acc * 10 + (b.toNat - 48) < 10 ^ (j + 1) := by rw [Nat.pow_succ]; omega
    obtain ⟨e1, e2⟩ := ih (acc * 10 + (b.toNat - 48)) (j + 1) h.2 h3 (by omega)
    refine ⟨?_, by rw [List.length_cons, show j + (l.length + 1) = j + 1 + l.length by omega]; exact e2⟩
    rw [Lib.parseUint10, if_pos hb, if_neg (by omega), if_neg (by omega)]
    exact e1
theorem decDigits_val (n : Nat) : ∀ (l : Bs), l.length = n + 1 → l.all dig = true → (l.length = 1 ∨ l.head? ≠ some 48) → Lib.decDigits (natVal 0 l) = l ∧ (l.head? ≠ some 48 → 0 < natVal 0 l) := by
  induction n with
  | zero =>
    intro l hl hd _
    obtain ⟨b, rfl⟩ : ∃ b, l = [b] := List.length_eq_one_iff.1 hl
    have hb := dig_range (b := b) (by simpa using hd)
    have hv : natVal 0 [b] = b.toNat - 48 := by simp [natVal]
    rw [hv]
    refine ⟨?_, fun hne => ?_⟩
    · rw [Lib.decDigits_one (by omega), show 48 + (b.toNat - 48) = b.toNat by omega, UInt8.ofNat_toNat]
    · have : b.toNat ≠ 48 := fun e => hne (by rw [← UInt8.ofNat_toNat (x := b), e]; rfl)
      omega
  | succ n ih =>
    intro l hl hd hh
    rcases List.eq_nil_or_concat l with rfl | ⟨x, b, rfl⟩
    · simp at hl
    · rw [List.concat_eq_append] at *
      rw [List.length_append, List.length_singleton] at hl
      rw [List.all_append, Bool.and_eq_true] at hd
      have hb := dig_range (b := b) (by simpa using hd.2)
      have hx : x ≠ [] := by rintro rfl; simp at hl
      have hhd : (x ++ [b]).head? = x.head? := by cases x with
        | nil => exact absurd rfl hx
        | cons c x => rfl
      have hne : x.head? ≠ some 48 := by
        rcases hh with h | h
        · rw [List.length_append, List.length_singleton] at h; omega
        · rw [← hhd]; exact h
      obtain ⟨e1, e2⟩ := ih x (by omega) hd.1 (Or.inr hne)
      have hp := e2 hne
      rw [natVal_snoc]
      refine ⟨?_, fun _ => by omega⟩
      rw [Lib.decDigits, dif_neg (by omega), show (natVal 0 x * 10 + (b.toNat - 48)) / 10 = natVal 0 x by omega, show 48 + (natVal 0 x * 10 + (b.toNat - 48)) % 10 = b.toNat by omega, UInt8.ofNat_toNat, e1]
theorem numOk_parts {l : Bs} (h : numOk l = true) : l.all dig = true ∧ 0 < l.length ∧ l.length ≤ 7 ∧ (l.length = 1 ∨ l.head? ≠ some 48) := by
  unfold numOk at h
  simp only [Bool.and_eq_true, Bool.or_eq_true, decide_eq_true_eq, Bool.not_eq_true', beq_eq_false_iff_ne] at h
  exact ⟨h.1.1.1, h.1.1.2, h.1.2, h.2⟩
theorem numOk_of {l : Bs} (h1 : l.all dig = true) (h2 : 0 < l.length) (h3 : l.length ≤ 7) (h4 : l.length = 1 ∨ l.head? ≠ some 48) : numOk l = true := by
  unfold numOk
  simp only [Bool.and_eq_true, Bool.or_eq_true, decide_eq_true_eq, Bool.not_eq_true', beq_eq_false_iff_ne]
  exact ⟨⟨⟨h1, h2⟩, h3⟩, h4⟩
/-- a number that may stand in a text -/
theorem num_ok {l : Bs} (h : numOk l = true) : Lib.atoiAll l = .ok (numVal l) ∧ 0 ≤ numVal l ∧ numVal l ≤ 9999999 ∧ Lib.itoa (numVal l) = l := by
  obtain ⟨h1, h2, h3, h4⟩ := numOk_parts h
  obtain ⟨e1, e2⟩ := parse_digits l 0 0 h1 (by decide) (by omega)
  have hlt : natVal 0 l < 10 ^ 7 := Nat.lt_of_lt_of_le e2 (Nat.pow_le_pow_right (by decide) (by omega))
  have h7 : (10 : Nat) ^ 7 = 10000000 := by decide
  rw [numVal_nat l h1]
  refine ⟨?_, by omega, by omega, ?_⟩
  · cases l with
    | nil => simp at h2
    | cons c r =>
      rw [List.all_cons, Bool.and_eq_true] at h1
      have hc := dig_range h1.1
      rw [Lib.atoiAll_plain c r (by omega) (by omega)]
      unfold Lib.parseMag
      rw [if_neg (by simp), e1]
      unfold Lib.signless
      show (if 9223372036854775808 ≤ natVal 0 (c :: r) then _ else _) = _
      rw [if_neg (by omega)]
  · unfold Lib.itoa
    rw [if_neg (by omega), Int.toNat_natCast]
    exact (decDigits_val (l.length - 1) l (by omega) h1 h4).1
theorem decDigits_good (u : Nat) : (Lib.decDigits u).all dig = true ∧ 0 < (Lib.decDigits u).length ∧ (0 < u → (Lib.decDigits u).head? ≠ some 48) := by
  have hdig : ∀ k, k < 10 → dig (UInt8.ofNat (48 + k)) = true ∧ (0 < k → UInt8.ofNat (48 + k) ≠ 48) := by decide
  induction u using Nat.strongRecOn with
  | _ u ih =>
    by_cases h : u < 10
    · rw [Lib.decDigits_one h]
      exact ⟨by rw [List.all_cons, (hdig u h).1]; rfl, Nat.one_pos, fun h0 e => (hdig u h).2 h0 (Option.some.inj e)⟩
    · obtain ⟨i1, i2, i3⟩ := ih (u / 10) (by omega)
      rw [Lib.decDigits, dif_neg h]
      refine ⟨by rw [List.all_append, i1, List.all_cons, (hdig (u % 10) (by omega)).1]; rfl, by simp, fun _ => ?_⟩
      have := i3 (by omega)
      cases e : Lib.decDigits (u / 10) with
      | nil => rw [e] at i2; simp at i2
      | cons c r => rw [e] at this; exact this
theorem numOk_itoa {v : Int} (h0 : 0 ≤ v) (h1 : v ≤ 9999999) : numOk (Lib.itoa v) = true := by
  unfold Lib.itoa
  rw [if_neg (by omega)]
  obtain ⟨g1, g2, g3⟩ := decDigits_good v.toNat
  have h7 : (10 : Nat) ^ (6 + 1) = 10000000 := by decide
  have hlen : (Lib.decDigits v.toNat).length ≤ 7 := by rw [Lib.decDigits_length]; exact nDigits_le 6 v.toNat (by omega)
  refine numOk_of g1 g2 hlen ?_
  by_cases hz : v.toNat = 0
  · exact Or.inl (by rw [hz, Lib.decDigits_one (by decide)]; rfl)
  · exact Or.inr (g3 (by omega))
/-- digits that may not -/
theorem num_no {l : Bs} (hd : l.all dig = true) (h : numOk l = false) : Lib.atoiAll l = .«syntax» ∨ Lib.atoiAll l = .range ∨ ∃ v, Lib.atoiAll l = .ok v ∧ (9999999 < v ∨ Lib.itoa v ≠ l) := by
  cases e : Lib.atoiAll l with
  | «syntax» => exact Or.inl rfl
  | range => exact Or.inr (Or.inl rfl)
  | ok v =>
    refine Or.inr (Or.inr ⟨v, rfl, ?_⟩)
    by_cases hv : 9999999 < v
    · exact Or.inl hv
    · refine Or.inr fun hi => ?_
      by_cases h0 : 0 ≤ v
      · have := numOk_itoa h0 (by omega)
        rw [hi, h] at this
        cases this
      · unfold Lib.itoa at hi
        rw [if_pos (by omega)] at hi
        rw [← hi, List.all_cons, Bool.and_eq_true] at hd
        exact absurd hd.1 (by decide)
end Go.Proofs.YtelickcfodcmaaaGreatDoor

namespace Go.Proofs.YtelickcfodcmaaaGreatDoor
open Go.RowKit

/-- numbers, each behind a blank, at most so many, and the row's end -/
def trB : Nat → Bs → Option (List Int × Bs)
  | 0, s => (takeB [10] s).map fun r => ([], r)
  | k + 1, s => if [32].isPrefixOf s then (numB (s.drop 1)).bind fun x => (trB k x.2).map fun y => (x.1 ++ y.1, y.2) else (takeB [10] s).map fun r => ([], r)
/-- words with a number behind each -/
def prB : Bool → List Bs → Bs → Option (List Int × Bs)
  | _, [], s => some ([], s)
  | f, w :: ws, s => (if f then some s else takeB [32] s).bind fun s1 => (takeB (w ++ [32]) s1).bind fun s2 => (numB s2).bind fun x => (prB false ws x.2).map fun y => (x.1 ++ y.1, y.2)
def tracksB (s : Bs) : Option (List Int × Bs) := (prB true (wordsOf 0) s).bind fun x => (trB 38 x.2).map fun y => (x.1 ++ y.1, y.2)
def numbersB (k : Nat) (s : Bs) : Option (List Int × Bs) := (prB true (wordsOf k) s).bind fun x => (takeB [10] x.2).map fun r => (x.1, r)
def toksOf : List Bs → List Tok
  | [] => []
  | w :: ws => .word w :: .num :: toksOf ws
def trackToks (n : Nat) : List Tok := .word (wordsOf 0)[0]! :: List.replicate (max 1 (min n 40 - 1)) .num
/-- what a line's words say, where they are as a kind of row has them -/
def tracksM (x : Bs) : Option (List Int) := likeB (trackToks (cutB x).length) (cutB x)
def numsM (k : Nat) (x : Bs) : Option (List Int) := likeB (toksOf (wordsOf k)) (cutB x)

instance (x : Bs) : Decidable (Free x) := inferInstanceAs (Decidable (∀ b ∈ x, b ≠ 32 ∧ b ≠ 10))
theorem takeB_app (p q s : Bs) : takeB (p ++ q) s = (takeB p s).bind (takeB q) := by
  unfold takeB
  by_cases h : p <+: s
  · obtain ⟨t, rfl⟩ := h
    have hp : p.isPrefixOf (p ++ t) = true := List.isPrefixOf_iff_prefix.2 (List.prefix_append _ _)
    rw [if_pos hp, List.drop_left]
    show _ = (if q.isPrefixOf t = true then some (t.drop q.length) else none)
    by_cases hq : q <+: t
    · obtain ⟨u, rfl⟩ := hq
      have h1 : q.isPrefixOf (q ++ u) = true := List.isPrefixOf_iff_prefix.2 (List.prefix_append _ _)
      have h2 : (p ++ q).isPrefixOf (p ++ (q ++ u)) = true := List.isPrefixOf_iff_prefix.2 (by rw [← List.append_assoc]; exact List.prefix_append _ _)
      rw [if_pos h1, if_pos h2, List.drop_left, ← List.append_assoc, List.drop_left]
    · have h1 : ¬ (q.isPrefixOf t = true) := fun e => hq (List.isPrefixOf_iff_prefix.1 e)
      have h2 : ¬ ((p ++ q).isPrefixOf (p ++ t) = true) := fun e => hq ((List.prefix_append_right_inj p).1 (List.isPrefixOf_iff_prefix.1 e))
      rw [if_neg h1, if_neg h2]
  · have hp : ¬ (p.isPrefixOf s = true) := fun e => h (List.isPrefixOf_iff_prefix.1 e)
    have h2 : ¬ ((p ++ q).isPrefixOf s = true) := fun e => h (List.IsPrefix.trans (List.prefix_append _ _) (List.isPrefixOf_iff_prefix.1 e))
    rw [if_neg hp, if_neg h2]
    rfl

theorem prB_rest (ws : List Bs) (s : Bs) : ((prB false ws s).bind fun x => (takeB [10] x.2).map fun r => (x.1, r)) = restB (toksOf ws) s := by
  induction ws generalizing s with
  | nil => simp [prB, toksOf, restB]
  | cons w ws ih =>
    simp only [prB, toksOf, restB, takeB_app, tokB_word, tokB_num]
    cases h1 : takeB [32] s with
    | none => simp
    | some s1 =>
      cases h2 : takeB w s1 with
      | none => simp [h2]
      | some s2 =>
        cases h3 : takeB [32] s2 with
        | none => simp [h2, h3]
        | some s3 =>
          cases h4 : numB s3 with
          | none => simp [h2, h3, h4]
          | some x =>
            have h5 := ih x.2
            simp only [h2, h3, h4, Option.bind_some, Option.map_some, Bool.false_eq_true, if_false, List.nil_append]
            rw [← h5]
            cases h6 : prB false ws x.2 with
            | none => simp
            | some y => cases h7 : takeB [10] y.2 <;> simp [h7]
theorem numbersB_row (k : Nat) (s : Bs) : numbersB k s = rowB (toksOf (wordsOf k)) s := by
  have hk : ∃ w ws, wordsOf k = w :: ws := by
    match k with
    | 0 => exact ⟨_, _, rfl⟩
    | 1 => exact ⟨_, _, rfl⟩
    | 2 => exact ⟨_, _, rfl⟩
    | _ + 3 => exact ⟨_, _, rfl⟩
  obtain ⟨w, ws, hw⟩ := hk
  unfold numbersB
  rw [hw]
  have h := prB_rest (w :: ws) (32 :: s)
  have e : prB false (w :: ws) (32 :: s) = prB true (w :: ws) s := by simp [prB, takeB_one]
  rw [e] at h
  rw [h, toksOf, restB, takeB_one, if_pos rfl]
  rfl

theorem trB_tail (k : Nat) (xs : List Bs) (r : Bs) (hx : ∀ x ∈ xs, Free x) : trB k (tailT xs r) = (likeB (List.replicate (min xs.length k) .num) xs).map fun a => (a, r) := by
  induction k generalizing xs with
  | zero =>
    cases xs with
    | nil => simp [trB, tailT, takeB_one, likeB]
    | cons x xs => simp [trB, tailT, takeB_one, likeB]
  | succ k ih =>
    cases xs with
    | nil => simp [trB, tailT, takeB_one, likeB]
    | cons x xs =>
      have h1 := ih xs (fun x h => hx x (List.mem_cons_of_mem _ h))
      obtain ⟨e, s, hs, he⟩ := tailT_head xs r
      have hm : min (x :: xs).length (k + 1) = min xs.length k + 1 := by simp
      rw [hm, List.replicate_succ, likeB, tailT, trB, hs]
      rw [hs] at h1
      simp only [List.isPrefixOf, BEq.rfl, Bool.and_true, if_true, List.drop_succ_cons, List.drop_zero]
      have ht := tokB_at (t := .num) (r := s) trivial (hx x (List.mem_cons_self ..)) he
      rw [tokB_num] at ht
      rcases ht with ⟨a, h2, h3⟩ | ⟨h2, h3 | ⟨a, c, q, h3, hc⟩⟩
      · rw [h2, h3]
        show (trB k (e :: s)).map _ = ((likeB _ xs).map _).map _
        rw [h1]
        cases likeB (List.replicate (min xs.length k) Tok.num) xs <;> rfl
      · rw [h2, h3]; rfl
      · rw [h2, h3]
        show (trB k (c :: q)).map _ = none
        cases k with
        | zero => simp [trB, takeB_one, hc.2.symm]
        | succ k => simp [trB, takeB_one, hc.2.symm, hc.1.symm]

theorem tracksB_line (l r : Bs) (h : ∀ b ∈ l, b ≠ 10) : tracksB (l ++ 10 :: r) = (tracksM l).map fun a => (a, r) := by
  obtain ⟨x, xs, hc, he, hf⟩ := cutB_line l r h
  unfold tracksM tracksB
  rw [hc, he]
  have hw : wordsOf 0 = [(wordsOf 0)[0]!] := rfl
  have hg : Free (wordsOf 0)[0]! := by decide
  generalize (wordsOf 0)[0]! = W at hw hg
  rw [hw]
  obtain ⟨e, s, hs, hes⟩ := tailT_head xs r
  have ht := tokB_at (t := .word W) (r := s) hg (hf x (List.mem_cons_self ..)) hes
  have hfx : ∀ y ∈ xs, Free y := fun y hy => hf y (List.mem_cons_of_mem _ hy)
  unfold trackToks
  rw [show (wordsOf 0)[0]! = W from by rw [hw]; rfl]
  simp only [prB, takeB_app, if_true, Option.bind_some, likeB]
  rw [tokB_word] at ht
  rw [hs]
  rcases ht with ⟨a, h2, h3⟩ | ⟨h2, h3 | ⟨a, c, q, h3, hcq⟩⟩
  · rw [h2]
    cases h4 : takeB W (x ++ e :: s) with
    | none => rw [h4] at h3; cases h3
    | some q =>
      rw [h4] at h3
      simp only [Option.map_some, Option.some.injEq, Prod.mk.injEq] at h3
      obtain ⟨rfl, rfl⟩ := h3
      rw [← hs]
      cases xs with
      | nil => simp [tailT, takeB_one, likeB]
      | cons y ys =>
        have hm : max 1 (min (x :: y :: ys).length 40 - 1) = min ys.length 38 + 1 := by simp only [List.length_cons]; omega
        rw [hm, List.replicate_succ, likeB, tailT]
        simp only [Option.bind_some, takeB_one, if_true, List.nil_append]
        have h1 := trB_tail 38 ys r (fun z hz => hfx z (List.mem_cons_of_mem _ hz))
        obtain ⟨e', s', hs', he'⟩ := tailT_head ys r
        rw [hs'] at h1 ⊢
        have ht := tokB_at (t := .num) (r := s') trivial (hfx y (List.mem_cons_self ..)) he'
        rw [tokB_num] at ht
        rcases ht with ⟨a, h2, h3⟩ | ⟨h2, h3 | ⟨a, c, q, h3, hc⟩⟩
        · rw [h2, h3]
          simp only [Option.bind_some, Option.map_some, List.append_nil]
          rw [h1]
          cases likeB (List.replicate (min ys.length 38) Tok.num) ys <;> rfl
        · rw [h2, h3]; rfl
        · rw [h2, h3]
          simp only [Option.bind_some, Option.map_some]
          simp [trB, takeB_one, hc.2.symm, hc.1.symm]
  · rw [h2]
    cases h4 : takeB W (x ++ e :: s) with
    | none => rfl
    | some q => rw [h4] at h3; cases h3
  · rw [h2]
    cases h4 : takeB W (x ++ e :: s) with
    | none => rfl
    | some q' =>
      rw [h4] at h3
      simp only [Option.map_some, Option.some.injEq, Prod.mk.injEq] at h3
      obtain ⟨_, rfl⟩ := h3
      simp [takeB_one, hcq.1.symm]

theorem trB_newline {k : Nat} {s r : Bs} {a : List Int} (h : trB k s = some (a, r)) : 10 ∈ s := by
  induction k generalizing s a with
  | zero =>
    unfold trB at h
    cases e : takeB [10] s with
    | none => rw [e] at h; cases h
    | some q => rw [takeB_sub e]; simp
  | succ k ih =>
    unfold trB at h
    split at h
    · cases e2 : numB (s.drop 1) with
      | none => rw [e2] at h; cases h
      | some x =>
        obtain ⟨b, q2⟩ := x
        rw [e2, Option.bind_some] at h
        cases e3 : trB k q2 with
        | none => simp [e3] at h
        | some y =>
          obtain ⟨y1, y2⟩ := y
          simp [e3] at h
          obtain ⟨p, hp⟩ := tokB_sub (t := .num) e2
          have := ih (s := q2) (a := y1) (by rw [e3, h.2])
          have hm : 10 ∈ s.drop 1 := by rw [hp]; simp [this]
          exact List.mem_of_mem_drop hm
    · cases e : takeB [10] s with
      | none => rw [e] at h; cases h
      | some q => rw [takeB_sub e]; simp
theorem tracksB_none (s : Bs) (h : 10 ∉ s) : tracksB s = none := by
  unfold tracksB
  have hw : wordsOf 0 = [(wordsOf 0)[0]!] := rfl
  generalize (wordsOf 0)[0]! = W at hw
  rw [hw]
  simp only [prB, if_true, Option.bind_some]
  cases h4 : takeB (W ++ [32]) s with
  | none => rfl
  | some q =>
    cases h5 : numB q with
    | none => simp [h5]
    | some x =>
      obtain ⟨b, q2⟩ := x
      obtain ⟨p, hp⟩ := tokB_sub (t := .num) h5
      cases h6 : trB 38 q2 with
      | none => simp [h5, h6]
      | some y =>
        have := trB_newline h6
        exact absurd (by rw [takeB_sub h4, hp]; simp [this]) h

/-- lines, and what stands behind the last newline -/
def unl : List Bs → Bs → Bs
  | [], r => r
  | x :: xs, r => x ++ 10 :: unl xs r
def cutN : Bs → List Bs × Bs
  | [] => ([], [])
  | b :: t => if b = 10 then ([] :: (cutN t).1, (cutN t).2) else match (cutN t).1 with
    | [] => ([], b :: (cutN t).2)
    | x :: xs => ((b :: x) :: xs, (cutN t).2)
theorem cutN_all (s : Bs) : unl (cutN s).1 (cutN s).2 = s ∧ 10 ∉ (cutN s).2 ∧ ∀ x ∈ (cutN s).1, ∀ b ∈ x, b ≠ 10 := by
  induction s with
  | nil => exact ⟨rfl, by simp [cutN], by simp [cutN]⟩
  | cons b t ih =>
    obtain ⟨h1, h2, h3⟩ := ih
    by_cases hb : b = 10
    · subst hb
      refine ⟨by simp [cutN, unl, h1], by simp [cutN, h2], ?_⟩
      simp only [cutN, if_true, List.mem_cons, forall_eq_or_imp]
      exact ⟨by simp, h3⟩
    · cases hx : (cutN t).1 with
      | nil =>
        rw [hx] at h1
        simp only [cutN, hb, if_false, hx]
        refine ⟨by simp only [unl] at h1 ⊢; rw [h1], ?_, by simp⟩
        simp only [List.mem_cons, not_or]
        exact ⟨fun e => hb e.symm, h2⟩
      | cons x xs =>
        rw [hx] at h1 h3
        simp only [cutN, hb, if_false, hx]
        refine ⟨by simp only [unl, List.cons_append] at h1 ⊢; rw [h1], h2, ?_⟩
        intro y hy c hc
        rcases List.mem_cons.1 hy with rfl | hy
        · rcases List.mem_cons.1 hc with rfl | hc
          · exact hb
          · exact h3 x (List.mem_cons_self ..) c hc
        · exact h3 y (List.mem_cons_of_mem _ hy) c hc
theorem unl_length (xs : List Bs) (r : Bs) : xs.length + r.length ≤ (unl xs r).length := by
  induction xs with
  | nil => simp [unl]
  | cons x xs ih => simp only [unl, List.length_cons, List.length_append]; omega

structure TrL where
  frm : Int
  ready : Int
  due : Int
  weight : Int
  legs : List LegD
structure LnL where
  tracks : List Int
  gap : Int
  trains : List TrL
def nilL : LnL := ⟨[], 0, []⟩
def trL (a : List Int) : TrL := ⟨a.getD 0 0, a.getD 1 0, a.getD 2 0, a.getD 3 0, []⟩
def legL (a : List Int) : LegD := ⟨a.getD 0 0, a.getD 1 0, a.getD 2 0⟩
def TrL.add (t : TrL) (g : LegD) : TrL := { t with legs := t.legs ++ [g] }
def addLeg (ts : List TrL) (g : LegD) : List TrL := match ts.getLast? with
  | none => []
  | some t => ts.dropLast ++ [t.add g]
theorem addLeg_snoc (ts : List TrL) (t : TrL) (g : LegD) : addLeg (ts ++ [t]) g = ts ++ [t.add g] := by simp [addLeg]
/-- a line of a text, by its number -/
def takeM (l : LnL) (x : Bs) (n : Nat) : Option LnL :=
  if n = 0 then (tracksM x).map fun a => { l with tracks := a }
  else if n = 1 then (numsM 1 x).map fun a => { l with gap := a.getD 0 0 }
  else if (cutB x).head? = some (wordsOf 2)[0]! then (numsM 2 x).map fun a => { l with trains := l.trains ++ [trL a] }
  else (numsM 3 x).bind fun a => if l.trains = [] then none else some { l with trains := addLeg l.trains (legL a) }
def goM : LnL → Nat → List Bs → Bs → Sum LnL Nat
  | l, n, [], r => if r ≠ [] ∨ n < 2 then .inr (n + 1) else .inl l
  | l, n, x :: xs, r => match takeM l x n with
    | none => .inr (n + 1)
    | some l' => goM l' (n + 1) xs r

theorem likeB_head {w : Bs} {ts : List Tok} {c : List Bs} {a : List Int} (h : likeB (.word w :: ts) c = some a) : c.head? = some w := by
  cases c with
  | nil => simp [likeB] at h
  | cons x xs =>
    simp only [likeB, tokOk_word] at h
    by_cases e : x = w
    · rw [e]; rfl
    · simp [e] at h
theorem cutB_head (x : Bs) {w : Bs} (h : (cutB x).head? = some w) : w <+: x := by
  induction x generalizing w with
  | nil => simp only [cutB, List.head?_cons, Option.some.injEq] at h; subst h; exact List.prefix_refl _
  | cons b t ih =>
    unfold cutB at h
    split at h
    · simp only [List.head?_cons, Option.some.injEq] at h; subst h; exact List.nil_prefix
    · split at h
      · rename_i y ys hc
        simp only [List.head?_cons, Option.some.injEq] at h
        subst h
        exact (List.cons_prefix_cons).2 ⟨rfl, ih (by rw [hc]; rfl)⟩
      · simp only [List.head?_cons, Option.some.injEq] at h; subst h; exact (List.cons_prefix_cons).2 ⟨rfl, List.nil_prefix⟩

/-- the lines left, and what is read -/
structure Left (s : Bs) (l : LnL) (n : Nat) (xs : List Bs) (r : Bs) : Prop where
  text : s = unl xs r
  rest : 10 ∉ r
  lines : ∀ x ∈ xs, ∀ b ∈ x, b ≠ 10
theorem Left.tail {s : Bs} {l l' : LnL} {n : Nat} {x : Bs} {xs : List Bs} {r : Bs} (h : Left s l n (x :: xs) r) : Left (unl xs r) l' (n + 1) xs r := ⟨rfl, h.rest, fun y hy => h.lines y (List.mem_cons_of_mem _ hy)⟩

theorem tracks_step {s : Bs} {l : LnL} {xs : List Bs} {r : Bs} (h : Left s l 0 xs r) :
    (tracksB s = none ∧ goM l 0 xs r = .inr 1) ∨ ∃ a s' xs', tracksB s = some (a, s') ∧ xs.length = xs'.length + 1 ∧ Left s' { l with tracks := a } 1 xs' r ∧ goM l 0 xs r = goM { l with tracks := a } 1 xs' r := by
  cases xs with
  | nil =>
    refine Or.inl ⟨?_, by simp [goM]⟩
    rw [h.text]; exact tracksB_none _ h.rest
  | cons x xs =>
    have e := tracksB_line x (unl xs r) (h.lines x (List.mem_cons_self ..))
    rw [h.text]
    show (tracksB (x ++ 10 :: unl xs r) = none ∧ _) ∨ ∃ a s' xs', tracksB (x ++ 10 :: unl xs r) = some (a, s') ∧ _
    rw [e]
    cases ht : tracksM x with
    | none => exact Or.inl ⟨rfl, by simp [goM, takeM, ht]⟩
    | some a => exact Or.inr ⟨a, _, xs, rfl, rfl, h.tail, by simp [goM, takeM, ht]⟩
theorem good_toks (k : Nat) : ∀ t ∈ toksOf (wordsOf k), Good t := by
  have hw : ∀ ws : List Bs, (∀ w ∈ ws, Free w) → ∀ t ∈ toksOf ws, Good t := fun ws => by
    induction ws with
    | nil => intro _ t ht; simp [toksOf] at ht
    | cons w ws ih =>
      intro h t ht
      simp only [toksOf, List.mem_cons] at ht
      rcases ht with rfl | rfl | ht
      · exact h w (List.mem_cons_self ..)
      · trivial
      · exact ih (fun w hw => h w (List.mem_cons_of_mem _ hw)) t ht
  apply hw
  match k with
  | 0 => decide
  | 1 => decide
  | 2 => decide
  | _ + 3 => show ∀ w ∈ [[108, 101, 103], [114, 117, 110], [115, 116, 97, 121]], Free w; decide
theorem toks_ne (k : Nat) : toksOf (wordsOf k) ≠ [] := by
  match k with
  | 0 => simp [wordsOf, toksOf]
  | 1 => simp [wordsOf, toksOf]
  | 2 => simp [wordsOf, toksOf]
  | _ + 3 => simp [wordsOf, toksOf]
theorem numbers_line (k : Nat) (x r : Bs) (h : ∀ b ∈ x, b ≠ 10) : numbersB k (x ++ 10 :: r) = (numsM k x).map fun a => (a, r) := by
  rw [numbersB_row]; exact rowB_cut _ _ _ (toks_ne k) (good_toks k) h
theorem numbers_none (k : Nat) (s : Bs) (h : 10 ∉ s) : numbersB k s = none := by rw [numbersB_row]; exact rowB_none _ _ h
theorem gap_step {s : Bs} {l : LnL} {xs : List Bs} {r : Bs} (h : Left s l 1 xs r) :
    (numbersB 1 s = none ∧ goM l 1 xs r = .inr 2) ∨ ∃ a s' xs', numbersB 1 s = some (a, s') ∧ xs.length = xs'.length + 1 ∧ Left s' { l with gap := a.getD 0 0 } 2 xs' r ∧ goM l 1 xs r = goM { l with gap := a.getD 0 0 } 2 xs' r := by
  cases xs with
  | nil =>
    refine Or.inl ⟨?_, by simp [goM]⟩
    rw [h.text]; exact numbers_none _ _ h.rest
  | cons x xs =>
    have e := numbers_line 1 x (unl xs r) (h.lines x (List.mem_cons_self ..))
    rw [h.text]
    show (numbersB 1 (x ++ 10 :: unl xs r) = none ∧ _) ∨ ∃ a s' xs', numbersB 1 (x ++ 10 :: unl xs r) = some (a, s') ∧ _
    rw [e]
    cases ht : numsM 1 x with
    | none => exact Or.inl ⟨rfl, by simp [goM, takeM, ht]⟩
    | some a => exact Or.inr ⟨a, _, xs, rfl, rfl, h.tail, by simp [goM, takeM, ht]⟩
def legW : Bs := (wordsOf 3)[0]!
/-- the legs of a train are as they should be, up to the first row that is none -/
def legsOk : List Bs → Bs → Bool
  | [], r => !(legW.isPrefixOf r)
  | x :: xs, r => if legW.isPrefixOf (x ++ 10 :: unl xs r) then (numsM 3 x).isSome && legsOk xs r else true
def trainOk : List Bs → Bs → Bool
  | [], _ => false
  | x :: xs, r => (numsM 2 x).isSome && legsOk xs r
theorem legsOk_end {xs : List Bs} {r : Bs} (h : legW.isPrefixOf (unl xs r) = false) : legsOk xs r = true := by
  cases xs with
  | nil => simp only [legsOk]; simp only [unl] at h; rw [h]; rfl
  | cons x xs => simp only [legsOk]; simp only [unl] at h; rw [h]; rfl
theorem train_step {s : Bs} {l : LnL} {n : Nat} {xs : List Bs} {r : Bs} (h : Left s l n xs r) (hn : 2 ≤ n) (hs : s ≠ []) (hl : l.trains = [] ∨ legW.isPrefixOf s = false) :
    (numbersB 2 s = none ∧ goM l n xs r = .inr (n + 1) ∧ trainOk xs r = false) ∨ ∃ a s' xs', numbersB 2 s = some (a, s') ∧ trainOk xs r = legsOk xs' r ∧ xs.length = xs'.length + 1 ∧ Left s' { l with trains := l.trains ++ [trL a] } (n + 1) xs' r ∧ goM l n xs r = goM { l with trains := l.trains ++ [trL a] } (n + 1) xs' r := by
  have n0 : ¬ n = 0 := by omega
  have n1 : ¬ n = 1 := by omega
  cases xs with
  | nil =>
    have hr : r ≠ [] := by have := h.text; simp only [unl] at this; rw [← this]; exact hs
    refine Or.inl ⟨?_, by simp [goM, hr], rfl⟩
    rw [h.text]; exact numbers_none _ _ h.rest
  | cons x xs =>
    have e := numbers_line 2 x (unl xs r) (h.lines x (List.mem_cons_self ..))
    have hs2 : s = x ++ 10 :: unl xs r := h.text
    rw [hs2, e]
    cases ht : numsM 2 x with
    | none =>
      refine Or.inl ⟨rfl, ?_, by simp [trainOk, ht]⟩
      have : takeM l x n = none := by
        simp only [takeM, n0, n1, if_false, ht, Option.map_none]
        split
        · rfl
        · rcases hl with hl | hl
          · simp [hl]
          · cases h3 : numsM 3 x with
            | none => rfl
            | some a =>
              have hp := cutB_head x (likeB_head h3)
              have : legW <+: s := by rw [hs2]; exact hp.trans (List.prefix_append _ _)
              rw [List.isPrefixOf_iff_prefix.2 this] at hl
              cases hl
      simp [goM, this]
    | some a =>
      have hh : (cutB x).head? = some (wordsOf 2)[0]! := likeB_head ht
      refine Or.inr ⟨a, _, xs, rfl, by simp [trainOk, ht], rfl, h.tail, ?_⟩
      simp only [goM, takeM, n0, n1, if_false, hh, if_true, ht, Option.map_some]
theorem leg_step {s : Bs} {l : LnL} {ts : List TrL} {t : TrL} {n : Nat} {xs : List Bs} {r : Bs} (h : Left s l n xs r) (hn : 2 ≤ n) (ht : l.trains = ts ++ [t]) (hl : legW.isPrefixOf s = true) :
    (numbersB 3 s = none ∧ goM l n xs r = .inr (n + 1) ∧ legsOk xs r = false) ∨ ∃ a s' xs', numbersB 3 s = some (a, s') ∧ legsOk xs r = legsOk xs' r ∧ xs.length = xs'.length + 1 ∧ Left s' { l with trains := ts ++ [t.add (legL a)] } (n + 1) xs' r ∧ goM l n xs r = goM { l with trains := ts ++ [t.add (legL a)] } (n + 1) xs' r := by
  have n0 : ¬ n = 0 := by omega
  have n1 : ¬ n = 1 := by omega
  have hp := List.isPrefixOf_iff_prefix.1 hl
  have hlw : legW = [108, 101, 103] := rfl
  rw [hlw] at hp
  cases xs with
  | nil =>
    have hr : r ≠ [] := by
      have := h.text; simp only [unl] at this; rw [← this]
      rintro rfl
      simp at hp
    refine Or.inl ⟨?_, by simp [goM, hr], by have h2 := h.text; simp only [unl] at h2; simp only [legsOk]; rw [← h2, hl]; rfl⟩
    rw [h.text]; exact numbers_none _ _ h.rest
  | cons x xs =>
    have e := numbers_line 3 x (unl xs r) (h.lines x (List.mem_cons_self ..))
    have hs2 : s = x ++ 10 :: unl xs r := h.text
    have hl2 := hl
    rw [hs2, e]
    have hne : ¬ ((cutB x).head? = some (wordsOf 2)[0]!) := fun hh => by
      have h1 := (cutB_head x hh).trans (List.prefix_append x (10 :: unl xs r))
      rw [← hs2] at h1
      have hw2 : (wordsOf 2)[0]! = [116, 114, 97, 105, 110] := rfl
      rw [hw2] at h1
      obtain ⟨u, hu⟩ := h1
      obtain ⟨v, hv⟩ := hp
      rw [← hu] at hv
      simp at hv
    cases h3 : numsM 3 x with
    | none => exact Or.inl ⟨rfl, by simp only [goM, takeM, n0, n1, if_false, hne, h3, Option.bind_none], by simp only [legsOk]; rw [← hs2, hl, h3]; rfl⟩
    | some a =>
      refine Or.inr ⟨a, _, xs, rfl, by simp only [legsOk]; rw [← hs2, hl, h3]; simp, rfl, h.tail, ?_⟩
      have hn2 : ¬ (l.trains = []) := by rw [ht]; simp
      simp only [goM, takeM, n0, n1, if_false, hne, h3, Option.bind_some, hn2]
      rw [ht, addLeg_snoc]

/-- how many numbers, and how great -/
def numCount : List Tok → Nat
  | [] => 0
  | .word _ :: ts => numCount ts
  | .num :: ts => numCount ts + 1
theorem likeB_range (ts : List Tok) (c : List Bs) (a : List Int) (h : likeB ts c = some a) : a.length = numCount ts ∧ ∀ z ∈ a, 0 ≤ z ∧ z ≤ 9999999 := by
  induction ts generalizing c a with
  | nil =>
    cases c with
    | nil => simp only [likeB, Option.some.injEq] at h; subst h; simp [numCount]
    | cons x xs => simp [likeB] at h
  | cons t ts ih =>
    cases c with
    | nil => simp [likeB] at h
    | cons x xs =>
      simp only [likeB] at h
      cases h1 : tokOk t x with
      | none => simp [h1] at h
      | some p =>
        cases h2 : likeB ts xs with
        | none => simp [h1, h2] at h
        | some q =>
          simp only [h1, h2, Option.bind_some, Option.map_some, Option.some.injEq] at h
          subst h
          obtain ⟨i1, i2⟩ := ih xs q h2
          cases t with
          | word w =>
            rw [tokOk_word] at h1
            split at h1
            · simp only [Option.some.injEq] at h1; subst h1; exact ⟨i1, i2⟩
            · cases h1
          | num =>
            rw [tokOk_num] at h1
            split at h1
            · rename_i hk
              simp only [Option.some.injEq] at h1
              subst h1
              obtain ⟨_, k1, k2, _⟩ := num_ok hk
              refine ⟨by simp [numCount, i1], fun z hz => ?_⟩
              simp only [List.cons_append, List.nil_append, List.mem_cons] at hz
              rcases hz with rfl | hz
              · exact ⟨k1, k2⟩
              · exact i2 z hz
            · cases h1
end Go.Proofs.YtelickcfodcmaaaGreatDoor
