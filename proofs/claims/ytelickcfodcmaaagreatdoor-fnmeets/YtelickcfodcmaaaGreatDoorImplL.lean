/-
  The program's checks of a line, as errors: what they answer.
-/
import Derived.Test.YtelickcfodcmaaaGreatDoorSum
import Derived.Test.YtelickcfodcmaaaGreatDoorImplT
namespace Go.Proofs.YtelickcfodcmaaaGreatDoor
open Go.RowKit Go.Shelf

theorem countLegs_any (x0 x1 x2 x3 : Int) (la : Option Addr) (nl lc : Nat) (w : World) :
    Calls Tryz.prog 172 #[.agg #[.int .i64 x0, .int .i64 x1, .int .i64 x2, .int .i64 x3, .slice la nl lc]] w fun e w' => e = .returned (.int .i64 nl) ∧ Below w.heap.size w w' := by
  go_enter Tryz.func172, Tryz.ntmps172
  go_wp2
  go_ret
  exact ⟨rfl, b1 _ _⟩

theorem sumW_legs (f : Nat → TrainD) (n : Nat) (hn : n ≤ 5) (hml : ∀ j, j < n → (f j).nl ≤ 1048576) : ∀ k, k ≤ n → sumW (upto (fun j => ((f j).nl : Int)) k) = legSum f k
  | 0, _ => by simp [upto, sumW, legSum]
  | k + 1, hk => by
    rw [upto_succ, sumW_snoc, sumW_legs f n hn hml k (by omega)]
    have h1 := legSum_le hml k (by omega)
    have h2 := hml k (by omega)
    have hw : wrap64 ((legSum f k : Int) + ((f k).nl : Int)) = (legSum f k : Int) + ((f k).nl : Int) := by unfold wrap64; omega
    rw [hw]; simp only [legSum]; omega

/-- the sum of each train's number, at the two boxes that each has made -/
theorem sumT_any (fnum : Nat) (a : Option Addr) (len cap : Nat) (f : Nat → TrainD) (g : Nat → Int) (hreach : len ≤ 1048576)
    (henter : ∀ args w, (callFunc fnum args).run Tryz.prog w = .ok (.enter fnum args) w)
    (hnum : ∀ j, j < len → ∀ (la : Option Addr) (lc : Nat) (W : World), IsLegs 0 W.heap.size W la (f j).nl (f j).leg → Calls Tryz.prog fnum #[.agg #[.int .i64 (f j).frm, .int .i64 (f j).ready, .int .i64 (f j).due, .int .i64 (f j).weight, .slice la (f j).nl lc]] W fun e W' => e = .returned (.int .i64 (g j)) ∧ Below W.heap.size W W')
    (Bl Bf : Nat) (w : World) (hBl : w.cell? ⟨Bl, 0, none⟩ = some (.slice a len cap)) (hBf : w.cell? ⟨Bf, 0, none⟩ = some (.func (.func fnum) #[] #[])) (hT : IsTrains 0 w.heap.size w a len f) :
    Calls Tryz.prog 49 #[.func (.func 87) #[] #[.pointer (some ⟨Bl, 0, none⟩), .pointer (some ⟨Bf, 0, none⟩)]] w fun e w' => e = .returned (.int .i64 (sumW (upto g len))) ∧ Below w.heap.size w w' :=
  callsIn_wide.1 (sum_in Fence.wide 6 trivial 87 trivial rfl (by omega) _ (enters_of Tryz.func87 (by kernel_rfl) rfl) (upto g len) _ len w
    (eachT_stops Fence.wide 5 trivial fnum trivial rfl (by omega) Bl Bf a len cap f g hreach henter (fun j hj la lc W h => callsIn_wide.2 (hnum j hj la lc W h)) w hBl hBf hT))

theorem sumLegs_any (o : Obj) (a' : Option Addr) (len' cap' : Nat) (f : Nat → TrainD) (w : World) (hl' : len' ≤ 5) (hml : ∀ j, j < len' → (f j).nl ≤ 1048576) (hT : IsTrains 0 w.heap.size w a' len' f) :
    Calls Tryz.prog 49 #[.func (.func 87) #[] #[.pointer (some ⟨w.heap.size + 1, 0, none⟩), .pointer (some ⟨w.heap.size + 1 + 1, 0, none⟩)]] (((w.alloc o).alloc (.cells #[.slice a' len' cap'] 24)).alloc (.cells #[.func (.func 172) #[] #[]] 102))
      fun e w' => e = .returned (.int .i64 (legSum f len')) ∧ Below w.heap.size w w' := by
  have h := sumT_any 172 a' len' cap' f (fun j => ((f j).nl : Int)) (by omega) (enters_of Tryz.func172 (by kernel_rfl) rfl) (fun j _ la lc W _ => countLegs_any _ _ _ _ _ _ _ _) (w.heap.size + 1) (w.heap.size + 1 + 1) (((w.alloc o).alloc (.cells #[.slice a' len' cap'] 24)).alloc (.cells #[.func (.func 172) #[] #[]] 102)) (by rw [World.cell?_alloc_lt _ _ ⟨w.heap.size + 1, 0, none⟩ (by simp), World.cell?_alloc_at _ _ _ _ (by simp)]; rfl) (by rw [World.cell?_alloc_at _ _ _ _ (by simp)]; rfl) (hT.grow (b3 _ _ _ _))
  rw [sumW_legs f len' hl' hml len' (Nat.le_refl _)] at h
  exact h.mono fun e w' ⟨he, hb⟩ => ⟨he, Below.join (b3 _ _ _ _) (Nat.le_refl _) hb⟩

set_option maxHeartbeats 2000000 in
/-- the sizes are not right: an error of code 1 -/
theorem sizeError_bad (a : Option Addr) (len cap : Nat) (gap : Int) (a' : Option Addr) (len' cap' : Nat) (f : Nat → TrainD) (w : World) (_hl : len ≤ 1048576) (_hl' : len' ≤ 1048576) (hml : ∀ j, j < len' → (f j).nl ≤ 1048576) (hT : IsTrains 0 w.heap.size w a' len' f)
    (hno : ¬ (inB len 2 12 = true ∧ inB gap 0 10000 = true ∧ len' ≤ 5 ∧ legSum f len' ≤ 10)) :
    Calls Tryz.prog 147 #[.agg #[.slice a len cap, .int .i64 gap, .slice a' len' cap']] w fun e w' => e = .returned (.iface 162 (.agg #[.int .i64 1, .int .i64 0])) ∧ Below w.heap.size w w' := by
  cases h0 : inB len 2 12
  · clear hno
    go_enter Tryz.func147, Tryz.ntmps147
    go_wp2_with (go_at_call 52; refine (within_any _ _ _ _).mono ?_; rintro e w' ⟨rfl, rfl⟩)
    go_ret
    exact ⟨rfl, b1 _ _⟩
  cases h1 : inB gap 0 10000
  · clear hno
    go_enter Tryz.func147, Tryz.ntmps147
    go_wp2_with (go_at_call 52; refine (within_any _ _ _ _).mono ?_; rintro e w' ⟨rfl, rfl⟩)
    go_ret
    exact ⟨rfl, b1 _ _⟩
  by_cases h2 : 5 < len'
  · have h2' : (5 : Int) < (len' : Int) := by omega
    clear hno
    go_enter Tryz.func147, Tryz.ntmps147
    go_wp2_with (go_at_call 52; refine (within_any _ _ _ _).mono ?_; rintro e w' ⟨rfl, rfl⟩)
    go_ret
    exact ⟨rfl, b1 _ _⟩
  have h2' : (len' : Int) ≤ 5 := by omega
  have h3 : 10 < legSum f len' := Nat.lt_of_not_le (fun h => hno ⟨h0, h1, by omega, h⟩)
  have h3' : (10 : Int) < (legSum f len' : Int) := by omega
  clear hno
  go_enter Tryz.func147, Tryz.ntmps147
  go_wp2_with (first | (go_at_call 52; refine (within_any _ _ _ _).mono ?_; rintro e w' ⟨rfl, rfl⟩) | (go_at_call 50; refine (eachT_any _ _ _ _ _).mono ?_; rintro e w' ⟨rfl, rfl⟩) | (go_at_call 49; refine (sumLegs_any _ _ _ _ f _ (by omega) hml hT).mono ?_; rintro e w2 ⟨rfl, hB2⟩))
  go_ret
  exact ⟨rfl, hB2⟩

set_option maxHeartbeats 2000000 in
/-- the sizes are right: no error -/
theorem sizeError_ok (a : Option Addr) (len cap : Nat) (gap : Int) (a' : Option Addr) (len' cap' : Nat) (f : Nat → TrainD) (w : World) (hml : ∀ j, j < len' → (f j).nl ≤ 1048576) (hT : IsTrains 0 w.heap.size w a' len' f)
    (h0 : inB len 2 12 = true) (h1 : inB gap 0 10000 = true) (h2 : len' ≤ 5) (h3 : legSum f len' ≤ 10) (_hl : len ≤ 12) :
    Calls Tryz.prog 147 #[.agg #[.slice a len cap, .int .i64 gap, .slice a' len' cap']] w fun e w' => e = .returned .nilIface ∧ Below w.heap.size w w' := by
  have hl' : len' ≤ 1048576 := by omega
  have h2' : (len' : Int) ≤ 5 := by omega
  have h3' : (legSum f len' : Int) ≤ 10 := by omega
  go_enter Tryz.func147, Tryz.ntmps147
  go_wp2_with (first | (go_at_call 52; refine (within_any _ _ _ _).mono ?_; rintro e w' ⟨rfl, rfl⟩) | (go_at_call 50; refine (eachT_any _ _ _ _ _).mono ?_; rintro e w' ⟨rfl, rfl⟩) | (go_at_call 49; refine (sumLegs_any _ _ _ _ f _ (by omega) hml hT).mono ?_; rintro e w2 ⟨rfl, hB2⟩))
  go_ret
  exact ⟨rfl, hB2⟩
end Go.Proofs.YtelickcfodcmaaaGreatDoor
