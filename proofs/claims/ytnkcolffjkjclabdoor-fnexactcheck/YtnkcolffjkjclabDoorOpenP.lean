/-
  From the reading of an argument to its cells: a laws.Plan by value.
-/
import Derived.Test.YtnkcolffjkjclabDoorOpen
import Derived.Test.YtnkcolffjkjclabDoorPlans
namespace Go.Proofs.YtnkcolffjkjclabDoor
open Go.RowKit Go.Deep Go.ChangeShapes Go.WideShapes Go.Joins

theorem Tryd.cellsIntS : Tryd.prog.cellsOf 22 = 1 := by kernel_rfl
theorem Tryd.cellsIntSS : Tryd.prog.cellsOf 26 = 1 := by kernel_rfl
theorem Tryd.cellsPlan : Tryd.prog.cellsOf 28 = 1 := by kernel_rfl

section
variable {H : Type} {enc : TypeId × Value → H} {w : World} {base : Nat} {spare : Nat → Bool} {held : Bool}
instance : Inhabited RowD := ⟨⟨0, fun _ => 0⟩⟩

theorem readRows {fuel : Nat} {v : Value} {x : DataW H × List MemPlace} (h : DataW.trod enc Tryd.prog w base spare held fuel 26 [v] = some x) :
    ∃ (a : Option Addr) (len cap : Nat) (f : Nat → RowD), v = .slice a len cap ∧ len ≤ maxLen ∧ IsRows 0 w.heap.size w a len f := by
  rcases open_slice1 Tryd.underlying26 Tryd.cellsIntS h with ⟨hcs, _⟩ | ⟨a, len, cap, m, n, V, D, Pl, hcs, _, hl, hm, hmm, _, hx⟩
  · exact ⟨none, 0, 0, fun _ => default, by simpa using hcs, Nat.zero_le _, fun j hj => absurd hj (Nat.not_lt_zero _)⟩
  · have hle : len ≤ m := by rw [hmm]; split <;> omega
    obtain ⟨f, hf⟩ := choose_lt (α := RowD) (n := len) (p := fun i y => ∃ la lc, w.cell? (a.add i) = some (.slice la y.n lc) ∧ IsInts 0 w.heap.size w la y.n y.s ∧ y.n ≤ maxLen) (fun i hi => by
      obtain ⟨h1, h2⟩ := hx i (by omega)
      obtain ⟨la, nl, lc, fl, e, hml, hI⟩ := readInts h2
      exact ⟨⟨nl, fl⟩, la, lc, by rw [h1, e], hI, hml⟩)
    refine ⟨some a, len, cap, f, by simpa using hcs, by omega, fun j hj => ?_⟩
    obtain ⟨la0, lc0, h0, _⟩ := hf 0 (by omega)
    obtain ⟨b, off, rfl, e⟩ := spotOf (i := j) h0
    obtain ⟨la, lc, c0, hI, hml⟩ := hf j hj
    rw [e] at c0
    exact ⟨b, off, la, lc, rfl, Nat.zero_le _, ltCell (a := ⟨b, _, none⟩) c0, c0, hI, hml⟩

set_option maxRecDepth 100000 in
/-- A PLAN THAT CAME IN. -/
theorem readPlan {r : Reach} {b0 : Nat} {v : Value} {d : DataW H} {p : List MemPlace} (hv : Value.okWide Tryd.prog w r b0 28 v) (h : DataW.Trod enc Tryd.prog w base spare held 28 v d p) :
    ∃ (a : Option Addr) (len cap : Nat) (f : Nat → RowD), v = .agg #[.slice a len cap] ∧ len ≤ maxLen ∧ IsRows 0 w.heap.size w a len f := by
  obtain ⟨cs, rfl, hsz⟩ := okWide_struct Tryd.underlying28 hv
  obtain ⟨c0, rfl⟩ : ∃ c0, cs = #[c0] := by
    rw [Tryd.cellsPlan] at hsz
    match cs, hsz with
    | ⟨[c]⟩, _ => exact ⟨c, rfl⟩
  obtain ⟨fuel, hf⟩ := h
  obtain ⟨xs, k, _, _, _, hlen, hfs⟩ := DataW.trod_struct Tryd.underlying28 hf
  match xs, hlen with
  | [y0], _ =>
    have g0 := hfs 0 _ rfl
    simp [Tryd.cellsIntSS, Value.cells] at g0
    obtain ⟨a, len, cap, f, rfl, hl, hI⟩ := readRows g0
    exact ⟨a, len, cap, f, rfl, hl, hI⟩
end
end Go.Proofs.YtnkcolffjkjclabDoor
