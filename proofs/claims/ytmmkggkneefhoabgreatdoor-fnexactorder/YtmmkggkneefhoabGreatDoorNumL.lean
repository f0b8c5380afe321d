/-
  Rows of numbers that a call made: the laws' own comparison, mark and look at the mark.
-/
import Derived.Test.YtmmkggkneefhoabGreatDoorMark
import Derived.Test.YtmmkggkneefhoabGreatDoorSpecO
namespace Go.Proofs.YtmmkggkneefhoabGreatDoor
open Go.RowKit

def IsNums (W : World) (v : Value) (n : Nat) (h : Nat → Int) : Prop := ∃ a cap, v = .slice a n cap ∧ IsInts 0 W.heap.size W a n h
theorem IsNums.later {W W' : World} {v : Value} {n : Nat} {h : Nat → Int} (k : IsNums W v n h) (hB : Below W.heap.size W W') : IsNums W' v n h := by
  obtain ⟨a, cap, e, hi⟩ := k
  exact ⟨a, cap, e, hi.grow hB⟩
def numOf (L : List Nat) (j : Nat) : Int := ((L[j]?.getD 0 : Nat) : Int)
theorem isNums_of {W : World} {b0 : Nat} {v : Value} {L : List Nat} (h : W.ownsRow b0 3 1 v L.length (intCells L)) : IsNums W v L.length (numOf L) := by
  rcases h.2 with ⟨rfl, h0⟩ | ⟨g, cap, cur, rfl, _, hg, _⟩
  · exact ⟨none, 0, by rw [h0], fun r hr => by omega⟩
  · refine ⟨_, cap, rfl, fun r hr => ⟨g, 0, rfl, Nat.zero_le _, (h.lt g rfl).2, ?_⟩⟩
    rw [Nat.zero_add, h.cellAt r (by omega)]
    unfold intCells numOf
    rw [List.getElem?_map, List.getElem?_eq_getElem hr]
    rfl
theorem eqNums_same (v v' : Value) (L : List Nat) (w : World) (hl : L.length ≤ 1048576) (hI : IsNums w v L.length (numOf L)) (hJ : IsNums w v' L.length (numOf L)) :
    Calls Tryz.prog 14 #[v, v'] w fun e w' => e = .returned (.bool true) ∧ Below w.heap.size w w' := by
  obtain ⟨a, cap, rfl, hI⟩ := hI
  obtain ⟨b, cap', rfl, hJ⟩ := hJ
  exact eqIntS_same a b L.length cap cap' _ w hl hI hJ
theorem markNums_any (v : Value) (b0 n : Nat) (xs : List Value) (q : Int) (w : World) (hl : n ≤ 1048576) (h0 : 0 ≤ q) (h1 : q ≤ 281474976710656) (ho : w.ownsRow b0 3 1 v n xs) :
    Calls Tryz.prog 16 #[v, .int .i64 q] w fun e w' => e = .returned (.int .i64 (q + n)) ∧ IsNums w' v n (fun j => q + j) ∧ Mid b0 w.heap.size w w' := by
  have hS : ∃ a cap, v = .slice a n cap ∧ Soft b0 w.heap.size w a n := by
    rcases ho.2 with ⟨rfl, h0⟩ | ⟨g, cap, cur, rfl, hb, hg, _⟩
    · exact ⟨none, 0, by rw [h0], fun r hr => by omega⟩
    · have hlen := ho.1
      exact ⟨_, cap, rfl, fun r hr => ⟨g, 0, xs[r]'(by omega), rfl, hb, (ho.lt g rfl).2, by rw [Nat.zero_add, ho.cellAt r (by omega)]; exact List.getElem?_eq_getElem (by omega), ho.frozenAt _⟩⟩
  obtain ⟨a, cap, rfl, hs⟩ := hS
  refine (markIntS_any a n cap q w b0 w.heap.size hl h0 h1 hs).mono ?_
  rintro e w' ⟨rfl, hi, hm⟩
  exact ⟨rfl, ⟨a, cap, rfl, hi.mono (Nat.zero_le _) hm.below.size⟩, hm⟩
theorem heldNums_any (v : Value) (n : Nat) (q : Int) (w : World) (hl : n ≤ 1048576) (h0 : 0 ≤ q) (h1 : q ≤ 281474976710656) (hI : IsNums w v n (fun j => q + j)) :
    Calls Tryz.prog 30 #[v, .int .i64 q] w fun e w' => e = .returned (.int .i64 (q + n)) ∧ Below w.heap.size w w' := by
  obtain ⟨a, cap, rfl, hI⟩ := hI
  exact heldIntS_any a n cap q w _ _ hl h0 h1 hI
theorem orderOf_len (nt : Nat) (g : Nat → Int) (gap : Int) (ntr : Nat) (f : Nat → TrainD) (np : Nat) (P : Nat → RowD) : (orderOf nt g gap ntr f np P).length ≤ 50 := by
  unfold orderOf
  split
  · rename_i hz
    obtain ⟨hF, hS⟩ := clashOf_ok hz
    have hR := rightL_of (faultOf_snd hF)
    have hQ := rightP_of hS
    rw [outAt_len]
    obtain rfl : np = ntr := hQ.np
    have := rowSum_le (P := P) np (fun i hi => by rw [hQ.row i hi]; exact (hR.train i hi).nl)
    have := hR.tr
    omega
  · simp
end Go.Proofs.YtmmkggkneefhoabGreatDoor
