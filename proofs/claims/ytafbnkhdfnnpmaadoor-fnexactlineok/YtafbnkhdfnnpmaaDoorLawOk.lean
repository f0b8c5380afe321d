/-
  The law of LineOk: walked.
-/
import Derived.Test.YtafbnkhdfnnpmaaDoorImplK
import Derived.Test.YtafbnkhdfnnpmaaDoorSpecL
import Derived.Test.YtafbnkhdfnnpmaaDoorSz
import Derived.Test.YtafbnkhdfnnpmaaDoorTo
import Derived.Test.YtafbnkhdfnnpmaaDoorEq
namespace Go.Proofs.YtafbnkhdfnnpmaaDoor
open Go.RowKit

set_option maxHeartbeats 8000000 in
theorem lawOk_any (a : Option Addr) (len cap : Nat) (g : Nat → Int) (gap : Int) (a' : Option Addr) (len' cap' : Nat) (f : Nat → TrainD) (w : World) (hm : len ≤ maxLen) (hm' : len' ≤ maxLen)
    (hI : IsInts 0 w.heap.size w a len g) (hT : IsTrains 0 w.heap.size w a' len' f) (hg : w.cell? ⟨0, 0, none⟩ = some (.iface 93 (.agg #[.pointer (some ⟨1, 53, none⟩)]))) :
    Calls Tryd.prog 3 #[.agg #[.slice a len cap, .int .i64 gap, .slice a' len' cap']] w fun e w' => e = .returned (.bool true) ∧ Below w.heap.size w w' := by
  go_enter Tryd.func3, Tryd.ntmps3
  go_wp2_with (first | (go_at_call 6; refine (szLine_any _ _ _ _ _ _ _ f _ hm hm' (hT.grow (b1 _ _))).mono ?_; rintro e w1 ⟨⟨r, rfl, hr'⟩, hB⟩; have hr : Hid _ := hr'; clear hr'; have hBc := Below.join (b1 w _) (Nat.le_refl _) hB; obtain ⟨n0, n1, n2⟩ := new3 w (.slice a len cap) (.int .i64 gap) (.slice a' len' cap') 25; have q0 := cellLater hB n0; have q1 := cellLater hB n1; have q2 := cellLater hB n2; clear n0 n1 n2; have hS := ltCell q0))
  · go_ret
    exact ⟨rfl, hBc⟩
  obtain ⟨hl, hl', hml⟩ := hr.out (by omega)
  clear hr hB
  go_wp2_with (first | (go_at_call 8; refine (toLine_any _ _ _ g _ _ _ _ f _ hl hl' hml ?i1 ?i2).mono ?_; (case i1 => first | exact hI.grow hBc | exact hI.grow (hBc.alloc hBc.size _)); (case i2 => first | exact hT.grow hBc | exact hT.grow (hBc.alloc hBc.size _)); rintro e wt ⟨⟨b, b', rfl, J, U⟩, hB⟩; first | (replace q0 := cellLater hB q0; replace q1 := cellLater hB q1; replace q2 := cellLater hB q2; replace hBc := Below.join hBc (Nat.le_refl _) hB) | (replace q0 := cellLater hB (cellLater (b1 _ _) q0); replace q1 := cellLater hB (cellLater (b1 _ _) q1); replace q2 := cellLater hB (cellLater (b1 _ _) q2); obtain ⟨n0, n1⟩ := new2 w3 (.int .i64 (faultOf len g gap len' f).1) (.int .i64 (faultOf len g gap len' f).2) 28; have p0 := cellLater hB n0; have p1 := cellLater hB n1; clear n0 n1; replace hBc := Below.join (hBc.alloc hBc.size _) (Nat.le_refl _) hB); replace hS := ltCell q0) | (go_at_call 7; refine (specOk_any _ _ _ g _ _ _ _ f _ hl hl' hml (J.mono (Nat.zero_le _) (Nat.le_refl _)) (U.mono (Nat.zero_le _) (Nat.le_refl _))).mono ?_; rintro e w3 ⟨rfl, hB3⟩; replace q0 := cellLater hB3 q0; replace q1 := cellLater hB3 q1; replace q2 := cellLater hB3 q2; replace hBc := Below.join hBc (Nat.le_refl _) hB3; replace hS := ltCell q0; clear J U hB3 hB))
  have J0 := (J.mono (m₁ := 0) (Nat.zero_le _) (Nat.le_refl _)).grow (b1 wt (.cells #[.slice b len len, .int .i64 gap, .slice b' len' len'] 32))
  have U0 := (U.mono (m₁ := 0) (Nat.zero_le _) (Nat.le_refl _)).grow (b1 wt (.cells #[.slice b len len, .int .i64 gap, .slice b' len' len'] 32))
  have hBd := hBc.alloc hBc.size (.cells #[.slice b len len, .int .i64 gap, .slice b' len' len'] 32)
  have hg0 := cellLater hBd hg
  obtain ⟨x0, x1, x2⟩ := new3 wt (.slice b len len) (.int .i64 gap) (.slice b' len' len') 32
  replace q0 := cellLater (b1 wt (.cells #[.slice b len len, .int .i64 gap, .slice b' len' len'] 32)) q0
  replace q1 := cellLater (b1 wt (.cells #[.slice b len len, .int .i64 gap, .slice b' len' len'] 32)) q1
  replace q2 := cellLater (b1 wt (.cells #[.slice b len len, .int .i64 gap, .slice b' len' len'] 32)) q2
  replace p0 := cellLater (b1 wt (.cells #[.slice b len len, .int .i64 gap, .slice b' len' len'] 32)) p0
  replace p1 := cellLater (b1 wt (.cells #[.slice b len len, .int .i64 gap, .slice b' len' len'] 32)) p1
  clear J U hB hBc
  refine (implOk_any _ _ _ g _ _ _ _ f _ hl hl' hml J0 U0 hg0).mono ?_
  rintro e w5 ⟨rfl, hB5⟩
  replace q0 := cellLater hB5 q0
  replace q1 := cellLater hB5 q1
  replace q2 := cellLater hB5 q2
  replace p0 := cellLater hB5 p0
  replace p1 := cellLater hB5 p1
  replace x0 := cellLater hB5 x0
  replace x1 := cellLater hB5 x1
  replace x2 := cellLater hB5 x2
  replace hBd := Below.join hBd (Nat.le_refl _) hB5
  replace J0 := J0.grow hB5
  replace U0 := U0.grow hB5
  clear hB5
  have hS5 := ltCell q0
  have hS3 := ltCell p0
  have hS4 := ltCell x0
  go_wp2_with (go_at_call 10; refine (eqFault_same _ _ _).mono ?_; rintro e w6 ⟨rfl, hB6⟩; replace q0 := cellLater hB6 (cellLater (b1 _ _) q0); replace q1 := cellLater hB6 (cellLater (b1 _ _) q1); replace q2 := cellLater hB6 (cellLater (b1 _ _) q2); replace x0 := cellLater hB6 (cellLater (b1 _ _) x0); replace x1 := cellLater hB6 (cellLater (b1 _ _) x1); replace x2 := cellLater hB6 (cellLater (b1 _ _) x2); replace hBd := Below.join (hBd.alloc hBd.size _) (Nat.le_refl _) hB6; replace J0 := (J0.grow (b1 _ _)).grow hB6; replace U0 := (U0.grow (b1 _ _)).grow hB6; clear hB6)
  have hDr : Below w6.heap.size w6 w6.drew := (Below.refl _ _).drew
  have hBe := Below.join hBd (Nat.le_refl _) hDr
  have I6 := hI.grow hBe
  have T6 := hT.grow hBe
  have J6 := J0.grow hDr
  have U6 := U0.grow hDr
  clear J0 U0 hDr
  go_region_held3 (fun w' => w'.cell? ⟨w.heap.size, 0, none⟩ = some (.slice a len cap) ∧ w'.cell? ⟨w.heap.size, 1, none⟩ = some (.int .i64 gap) ∧ w'.cell? ⟨w.heap.size, 2, none⟩ = some (.slice a' len' cap') ∧ w'.cell? ⟨wt.heap.size, 0, none⟩ = some (.slice b len len) ∧ w'.cell? ⟨wt.heap.size, 1, none⟩ = some (.int .i64 gap) ∧ w'.cell? ⟨wt.heap.size, 2, none⟩ = some (.slice b' len' len')) (first | go_keep | (go_split_ands; refine ⟨?_, ?_, ?_, ?_, ?_, ?_⟩ <;> exact cellLater hB7 (by assumption)) | (go_split_ands; refine ⟨?_, ?_, ?_, ?_, ?_, ?_⟩ <;> exact cellLater hB8 (by assumption))) ((first | (go_at_call 8; refine (toLine_any _ _ _ g _ _ _ _ f _ hl hl' hml I6 T6).mono ?_; rintro e w7 ⟨⟨d, d', rfl, J7, U7⟩, hB7⟩; replace J6 := J6.grow hB7; replace U6 := U6.grow hB7) | (go_at_call 11; refine (eqLine_same _ _ _ g _ _ _ _ f _ _ _ _ _ hl hl' hml J6 U6 (J7.mono (Nat.zero_le _) (Nat.le_refl _)) (U7.mono (Nat.zero_le _) (Nat.le_refl _))).mono ?_; rintro e w8 ⟨rfl, hB8⟩)))
  go_wp2
  go_ret
  exact ⟨rfl, Below.join (Below.join hBe (Nat.le_refl _) hB7) (Nat.le_refl _) hB8⟩
end Go.Proofs.YtafbnkhdfnnpmaaDoor
