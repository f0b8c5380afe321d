/-
  A number as the program writes it.
-/
import Derived.Test.YtgdljgjamafpiaaGreatDoorShelfT
import Derived.Test.YtgdljgjamafpiaaGreatDoorWordsT
namespace Go.Proofs.YtgdljgjamafpiaaGreatDoor
open Go.RowKit

theorem below_grow0 (w : World) (k : Nat) (os : Array Obj) : Below w.heap.size w (Go.Sort.grow (w.drewN k) os) :=
  ⟨rfl, rfl, rfl, by simp [Go.Sort.grow, World.drewN], fun b hb => by
    show (w.heap ++ os)[b]? = w.heap[b]?
    rw [Array.getElem?_append_left hb]⟩
theorem itoaI_any (n : Int) (w : World) (h0 : 0 ≤ n) (h1 : n ≤ 99999999) (hT : TenIs w) : Calls Tryz.prog 49 #[.int .i64 n] w fun e w' => e = .returned (.string (ba (Lib.itoa n))) ∧ Below w.heap.size w w' := by
  have h : Calls Tryz.prog 49 #[.int .i64 n] w fun e w' => e = .returned (.string ⟨(Lib.itoa n).toArray⟩) ∧ ∃ k os, w' = Go.Sort.grow (w.drewN k) os := Go.Proofs.Any.strconv_Itoa Tryz.laysM171 n (by omega) (by omega) w hT
  refine h.mono ?_
  rintro _ _ ⟨rfl, k, os, rfl⟩
  exact ⟨rfl, below_grow0 w k os⟩
end Go.Proofs.YtgdljgjamafpiaaGreatDoor
