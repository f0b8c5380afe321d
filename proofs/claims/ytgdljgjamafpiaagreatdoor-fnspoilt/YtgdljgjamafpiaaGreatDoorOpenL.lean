/-
  From the reading of an argument to its cells: a laws.Line by value.
-/
import Derived.Test.YtgdljgjamafpiaaGreatDoorBase
import Derived.Lib.SmallJoins
import Derived.Deep.Slices
namespace Go.Proofs.YtgdljgjamafpiaaGreatDoor
open Go.RowKit Go.Deep Go.ChangeShapes Go.WideShapes Go.Joins

theorem Tryz.cellsInt : Tryz.prog.cellsOf 3 = 1 := by kernel_rfl
section
variable {H : Type} {enc : TypeId × Value → H} {w : World} {base : Nat} {spare : Nat → Bool} {held : Bool}

theorem spotOf {a : Addr} {i : Nat} {v : Value} (h : w.cell? (a.add 0) = some v) : ∃ b off, a = ⟨b, off, none⟩ ∧ a.add i = ⟨b, off + i, none⟩ := by
  obtain ⟨b, off, spot⟩ := a
  have hspot : spot = none := by simpa [Addr.add] using World.cell?_spot h
  subst hspot
  exact ⟨b, off, rfl, Go.WideShapes.add_plain _ _ _⟩

theorem readInts {fuel : Nat} {v : Value} {x : DataW H × List MemPlace} (h : DataW.trod enc Tryz.prog w base spare held fuel 23 [v] = some x) :
    ∃ (a : Option Addr) (len cap : Nat) (f : Nat → Int), v = .slice a len cap ∧ len ≤ maxLen ∧ IsInts 0 w.heap.size w a len f := by
  rcases open_slice1 Tryz.underlying23 Tryz.cellsInt h with ⟨hcs, _⟩ | ⟨a, len, cap, m, n, V, D, Pl, hcs, _, hl, hm, hmm, _, hx⟩
  · exact ⟨none, 0, 0, fun _ => 0, by simpa using hcs, Nat.zero_le _, fun j hj => absurd hj (Nat.not_lt_zero _)⟩
  · have hle : len ≤ m := by rw [hmm]; split <;> omega
    obtain ⟨f, hf⟩ := choose_lt (α := Int) (n := len) (p := fun i y => w.cell? (a.add i) = some (.int .i64 y)) (fun i hi => by
      obtain ⟨h1, h2⟩ := hx i (by omega)
      obtain ⟨y, e, _, _⟩ := DataW.trod_int Tryz.underlying3 h2
      simp at e
      exact ⟨y, by rw [h1, e]⟩)
    refine ⟨some a, len, cap, f, by simpa using hcs, by omega, fun j hj => ?_⟩
    obtain ⟨b, off, rfl, e⟩ := spotOf (i := j) (hf 0 (by omega))
    have := hf j hj
    rw [e] at this
    exact ⟨b, off, rfl, Nat.zero_le _, ltCell (a := ⟨b, _, none⟩) this, this⟩

theorem cells3Of {a : Addr} {cs : List Value} (h : w.cells? base a 3 = some cs) : ∃ x y z, cs = [x, y, z] ∧ w.cell? (a.add 0) = some x ∧ w.cell? (a.add 1) = some y ∧ w.cell? (a.add 2) = some z := by
  unfold World.cells? at h
  split at h
  · simp [List.range, List.range.loop, Option.bind_eq_some_iff] at h
    obtain ⟨x, hx, l, ⟨y, hy, l', ⟨z, hz, rfl⟩, rfl⟩, rfl⟩ := h
    exact ⟨x, y, z, rfl, hx, hy, hz⟩
  · cases h
theorem cells5Of {a : Addr} {cs : List Value} (h : w.cells? base a 5 = some cs) : ∃ x y z u v, cs = [x, y, z, u, v] ∧ w.cell? (a.add 0) = some x ∧ w.cell? (a.add 1) = some y ∧ w.cell? (a.add 2) = some z ∧ w.cell? (a.add 3) = some u ∧ w.cell? (a.add 4) = some v := by
  unfold World.cells? at h
  split at h
  · simp [List.range, List.range.loop, Option.bind_eq_some_iff] at h
    obtain ⟨x, hx, l, ⟨y, hy, l', ⟨z, hz, l'', ⟨u, hu, l3, ⟨v, hv, rfl⟩, rfl⟩, rfl⟩, rfl⟩, rfl⟩ := h
    exact ⟨x, y, z, u, v, rfl, hx, hy, hz, hu, hv⟩
  · cases h

instance : Inhabited LegD := ⟨⟨0, 0, 0⟩⟩
instance : Inhabited TrainD := ⟨⟨0, 0, 0, 0, 0, fun _ => default⟩⟩

end
end Go.Proofs.YtgdljgjamafpiaaGreatDoor
