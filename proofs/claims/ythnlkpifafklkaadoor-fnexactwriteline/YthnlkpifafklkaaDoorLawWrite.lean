/-
  The law of WriteLine: walked.
-/
import Derived.Test.YthnlkpifafklkaaDoorWriteI
import Derived.Test.YthnlkpifafklkaaDoorSz
import Derived.Test.YthnlkpifafklkaaDoorTo
import Derived.Test.YthnlkpifafklkaaDoorEq
namespace Go.Proofs.YthnlkpifafklkaaDoor
open Go.RowKit

set_option maxHeartbeats 8000000 in
theorem lawWrite_any (a : Option Addr) (len cap : Nat) (g : Nat → Int) (gap : Int) (a' : Option Addr) (len' cap' : Nat) (f : Nat → TrainD) (w : World) (hm : len ≤ maxLen) (hm' : len' ≤ maxLen)
    (hI : IsInts 0 w.heap.size w a len g) (hT : IsTrains 0 w.heap.size w a' len' f) (hg : w.cell? ⟨1, 0, none⟩ = some (.iface 101 (.agg #[.pointer (some ⟨6, 70, none⟩)]))) (hWd : WordsIs w) (hTn : TenIs w) :
    Calls Tryd.prog 3 #[.agg #[.slice a len cap, .int .i64 gap, .slice a' len' cap']] w fun e w' => e = .returned (.bool true) ∧ Below w.heap.size w w' := by
  go_enter Tryd.func3, Tryd.ntmps3
  go_wp2_with (first | (go_at_call 4; refine (szLine_any _ _ _ _ _ _ _ f _ hm hm' (hT.grow (b1 _ _))).mono ?_; rintro e w1 ⟨⟨r, rfl, _, hr'⟩, hB⟩; have hr : Hid _ := hr'; clear hr'; have hBc := Below.join (b1 w _) (Nat.le_refl _) hB; obtain ⟨n0, n1, n2⟩ := new3 w (.slice a len cap) (.int .i64 gap) (.slice a' len' cap') 25; have q0 := cellLater hB n0; have q1 := cellLater hB n1; have q2 := cellLater hB n2; clear n0 n1 n2; have hS := ltCell q0))
  · go_ret
    exact ⟨rfl, hBc⟩
  obtain ⟨hl, hl', hml⟩ := hr.out (by omega)
  clear hr hB
  go_wp2_with (first | (go_at_call 6; refine (toLine_any _ _ _ g _ _ _ _ f _ hl hl' hml (hI.grow hBc) (hT.grow hBc)).mono ?_; rintro e wt ⟨⟨b, b', rfl, J, U⟩, hB⟩; replace q0 := cellLater hB q0; replace q1 := cellLater hB q1; replace q2 := cellLater hB q2; replace hBc := Below.join hBc (Nat.le_refl _) hB; replace hS := ltCell q0) | (go_at_call 5; refine (specWrite_any _ _ _ g _ _ _ _ f _ hl hl' hml (J.mono (Nat.zero_le _) (Nat.le_refl _)) (U.mono (Nat.zero_le _) (Nat.le_refl _))).mono ?_; rintro e w3 ⟨rfl, hB3⟩; replace q0 := cellLater hB3 q0; replace q1 := cellLater hB3 q1; replace q2 := cellLater hB3 q2; replace hBc := Below.join hBc (Nat.le_refl _) hB3; replace hS := ltCell q0; clear J U hB3 hB))
  have J0 := (J.mono (m₁ := 0) (Nat.zero_le _) (Nat.le_refl _)).grow (b1 wt (.cells #[.slice b len len, .int .i64 gap, .slice b' len' len'] 30))
  have U0 := (U.mono (m₁ := 0) (Nat.zero_le _) (Nat.le_refl _)).grow (b1 wt (.cells #[.slice b len len, .int .i64 gap, .slice b' len' len'] 30))
  have hBd := hBc.alloc hBc.size (.cells #[.slice b len len, .int .i64 gap, .slice b' len' len'] 30)
  have hg0 := cellLater hBd hg
  obtain ⟨x0, x1, x2⟩ := new3 wt (.slice b len len) (.int .i64 gap) (.slice b' len' len') 30
  replace q0 := cellLater (b1 wt (.cells #[.slice b len len, .int .i64 gap, .slice b' len' len'] 30)) q0
  replace q1 := cellLater (b1 wt (.cells #[.slice b len len, .int .i64 gap, .slice b' len' len'] 30)) q1
  replace q2 := cellLater (b1 wt (.cells #[.slice b len len, .int .i64 gap, .slice b' len' len'] 30)) q2
  clear J U hB hBc
  refine (implWrite_any _ _ _ g _ _ _ _ f _ hl hl' hml J0 U0 hg0 (hWd.later hBd) (hTn.later hBd)).mono ?_
  rintro e w6 ⟨rfl, hB5⟩
  replace q0 := cellLater hB5 q0
  replace q1 := cellLater hB5 q1
  replace q2 := cellLater hB5 q2
  replace x0 := cellLater hB5 x0
  replace x1 := cellLater hB5 x1
  replace x2 := cellLater hB5 x2
  replace hBd := Below.join hBd (Nat.le_refl _) hB5
  replace J0 := J0.grow hB5
  replace U0 := U0.grow hB5
  clear hB5
  go_wp2
  have hDr : Below w6.heap.size w6 w6.drew := (Below.refl _ _).drew
  have hBe := Below.join hBd (Nat.le_refl _) hDr
  have I6 := hI.grow hBe
  have T6 := hT.grow hBe
  have J6 := J0.grow hDr
  have U6 := U0.grow hDr
  clear J0 U0 hDr
  go_region_held3 (fun w' => w'.cell? ⟨w.heap.size, 0, none⟩ = some (.slice a len cap) ∧ w'.cell? ⟨w.heap.size, 1, none⟩ = some (.int .i64 gap) ∧ w'.cell? ⟨w.heap.size, 2, none⟩ = some (.slice a' len' cap') ∧ w'.cell? ⟨wt.heap.size, 0, none⟩ = some (.slice b len len) ∧ w'.cell? ⟨wt.heap.size, 1, none⟩ = some (.int .i64 gap) ∧ w'.cell? ⟨wt.heap.size, 2, none⟩ = some (.slice b' len' len')) (first | go_keep | (go_split_ands; refine ⟨?_, ?_, ?_, ?_, ?_, ?_⟩ <;> exact cellLater hB7 (by assumption)) | (go_split_ands; refine ⟨?_, ?_, ?_, ?_, ?_, ?_⟩ <;> exact cellLater hB8 (by assumption))) ((first | (go_at_call 6; refine (toLine_any _ _ _ g _ _ _ _ f _ hl hl' hml I6 T6).mono ?_; rintro e w7 ⟨⟨d, d', rfl, J7, U7⟩, hB7⟩; replace J6 := J6.grow hB7; replace U6 := U6.grow hB7) | (go_at_call 8; refine (eqLine_same _ _ _ g _ _ _ _ f _ _ _ _ _ hl hl' hml J6 U6 (J7.mono (Nat.zero_le _) (Nat.le_refl _)) (U7.mono (Nat.zero_le _) (Nat.le_refl _))).mono ?_; rintro e w8 ⟨rfl, hB8⟩)))
  go_wp2
  go_ret
  exact ⟨rfl, Below.join (Below.join hBe (Nat.le_refl _) hB7) (Nat.le_refl _) hB8⟩
end Go.Proofs.YthnlkpifafklkaaDoor
