/-
  The model's next leg: the first tick in which there is room.
-/
import Derived.Test.YtelickcfodcmaaaGreatDoorSpecWa
namespace Go.Proofs.YtelickcfodcmaaaGreatDoor
open Go.RowKit

/-- the first region of a code -/
def firstReg : Code → Option Nat
  | .region i _ _ => some i
  | .seq a b => match firstReg a with
    | some i => some i
    | none => firstReg b
  | .block _ c => firstReg c
  | .scope c => firstReg c
  | .loop c => firstReg c
  | _ => none
/-- the body of the loop that begins with a region -/
def loopAt (id : Nat) : Code → Option Code
  | .loop c => match firstReg c with
    | some i => if i = id then some c else loopAt id c
    | none => loopAt id c
  | .seq a b => match loopAt id a with
    | some c => some c
    | none => loopAt id b
  | .block _ c => loopAt id c
  | .scope c => loopAt id c
  | .cond _ a b => match loopAt id a with
    | some c => some c
    | none => loopAt id b
  | _ => none
noncomputable def nextL : Code := ((Tryz.f91.body.bind (loopAt 21)).getD .skip)
/-- what a next leg answers -/
def NextPost (B0 b gR : Nat) (a : Option Addr) (len cap : Nat) (g : Nat → Int) (gap : Int) (a' : Option Addr) (np cap' : Nat) (f : Nat → TrainD) (c : Option Addr) (nc : Nat) (P : Nat → RowD) (last : Int) (i : Nat) (w : World) (e : Ending) (w' : World) : Prop :=
  ((∀ t, lowOf np f P gap last i ≤ t → fullAt np g f P (stOf f P i) t) ∧ e = .returned (.int .i64 3) ∧ Below w.heap.size w w') ∨
  (∃ t v', IsFirst np g f P (stOf f P i) (lowOf np f P gap last i) t ∧ e = .returned (.int .i64 0) ∧ Below B0 w w' ∧ LP B0 w' b gR a len cap gap a' np cap' c nc v' (moreP P i t) t)

set_option maxRecDepth 20000 in
set_option maxHeartbeats 16000000 in
theorem next_l {s2 s3 s4 s5 s6 s8 s9 s10 s11 s12 s13 s15 s16 s17 s18 s19 s20 s21 s22 s23 s24 s25 s26 s27 s28 s29 s30 s31 s32 s33 s34 s35 s36 s37 s38 s39 s40 s41 s42 s43 s44 s45 s46 s47 s48 s49 s50 s51 s52 s53 s54 s55 s56 s57 s58 s59 s60 s61 s62 s63 s64 s65 s66 s67 s68 s69 s70 s71 s72 s73 s74 s75 s76 s77 s78 s79 s80 s81 s82 s83 s84 s85 s86 s87 s88 s89 s90 s91 s92 s93 s94 s95 s96 s97 s98 s99 s100 s101 s102 s103 s104 s105 s106 s107 s108 s109 s110 s111 s112 s113 s114 s115 s116 s117 s118 s119 s120 s121 s122 s123 s124 s125 s126 s127 s128 s129 s130 s131 s132 s133 s134 s135 s136 s137 s138 s139 s140 s141 s142 s143 s144 s145 s146 s147 s148 s149 s150 s151 s152 s153 s154 s155 s156 s157 s158 s159 s160 s161 s162 s163 s164 s165 s166 s167 s168 s169 s170 s171 s172 s173 s174 s175 s176 s177 s178 s179 s180 s181 s182 s183 s184 s185 s186 s187 s188 s189 s190 s191 s192 s193 s194 s195 s196 s197 s198 s199 s200 s201 s202 s203 s204 s205 s206 s207 s208 s209 s210 s211 s212 s213 s214 s215 s216 s217 s218 s219 s220 s221 s222 s223 s224 s225 s226 s227 s228 s229 s230 s231 s232 s233 s234 s235 s236 s237 s238 s239 s240 s241 s242 s243 s244 s245 s246 s247 s248 s249 : Value} (B0 b gR ba oa bt ot bp op : Nat) (len cap : Nat) (g : Nat → Int) (gap : Int) (j cap' : Nat) (f : Nat → TrainD) (nc : Nat) (v : Nat → Value) (P : Nat → RowD) (last : Int) (i q : Nat) (low : Int) (w w5 : World) (K : Act → World → Prop)
    (hK : ∀ x W, Code.wp Tryz.prog nextE (bodyPost Tryz.prog Tryz.f91 (fun e w' => NextPost B0 b gR (some ⟨ba, oa, none⟩) len cap g gap (some ⟨bt, ot, none⟩) j cap' f (some ⟨bp, op, none⟩) nc P last i w e w' ∧ True)) x W → K x W) (hR : RightL len j f) (hG : RightG len g gap j f) (hQ : PartP j f P last) (hi : i < j) (hn10 : ∀ x, x < j → (P x).n ≤ 10)
    (hL : LP B0 w b gR (some ⟨ba, oa, none⟩) len cap gap (some ⟨bt, ot, none⟩) j cap' (some ⟨bp, op, none⟩) nc v P last) (hT : IsTrains 0 w.heap.size w (some ⟨bt, ot, none⟩) j f) (hP : IsRows 0 w.heap.size w (some ⟨bp, op, none⟩) j P) (hBx : Below w.heap.size w w5) (hql : q < len) (gq : w.cell? ⟨ba, oa + q, none⟩ = some (.int .i64 (g q)))
    (hqs : Hid (stOf f P i = (q : Int))) (hlow : Hid (lowOf j f P gap last i = low)) (hl0 : 0 ≤ low) (hl1 : low ≤ 700000) :
    Code.wp Tryz.prog (Code.loop nextL) (Exit.inBlock 4 (Exit.then K (bodyPost Tryz.prog Tryz.f91 (fun e w' => NextPost B0 b gR (some ⟨ba, oa, none⟩) len cap g gap (some ⟨bt, ot, none⟩) j cap' f (some ⟨bp, op, none⟩) nc P last i w e w' ∧ True)))) ⟨(.pointer (some ⟨b, 0, none⟩) :: .int .i64 i :: s2 :: s3 :: s4 :: s5 :: s6 :: .int .i64 low :: s8 :: s9 :: s10 :: s11 :: s12 :: s13 :: .int .i64 q :: s15 :: s16 :: s17 :: s18 :: s19 :: s20 :: s21 :: s22 :: s23 :: s24 :: s25 :: s26 :: s27 :: s28 :: s29 :: s30 :: s31 :: s32 :: s33 :: s34 :: s35 :: s36 :: s37 :: s38 :: s39 :: s40 :: s41 :: s42 :: s43 :: s44 :: s45 :: s46 :: s47 :: s48 :: s49 :: s50 :: s51 :: s52 :: s53 :: s54 :: s55 :: s56 :: s57 :: s58 :: s59 :: s60 :: s61 :: s62 :: s63 :: s64 :: s65 :: s66 :: s67 :: s68 :: s69 :: s70 :: s71 :: s72 :: s73 :: s74 :: s75 :: s76 :: s77 :: s78 :: s79 :: s80 :: s81 :: s82 :: s83 :: s84 :: s85 :: s86 :: s87 :: s88 :: s89 :: s90 :: s91 :: s92 :: s93 :: s94 :: s95 :: s96 :: s97 :: s98 :: s99 :: s100 :: s101 :: s102 :: s103 :: s104 :: s105 :: s106 :: s107 :: s108 :: s109 :: s110 :: s111 :: s112 :: s113 :: s114 :: s115 :: s116 :: s117 :: s118 :: s119 :: s120 :: s121 :: s122 :: s123 :: s124 :: s125 :: s126 :: s127 :: s128 :: s129 :: s130 :: s131 :: s132 :: s133 :: s134 :: s135 :: s136 :: s137 :: s138 :: s139 :: s140 :: s141 :: s142 :: s143 :: s144 :: s145 :: s146 :: s147 :: s148 :: s149 :: s150 :: s151 :: s152 :: s153 :: s154 :: s155 :: s156 :: s157 :: s158 :: s159 :: s160 :: s161 :: s162 :: s163 :: s164 :: s165 :: s166 :: s167 :: s168 :: s169 :: s170 :: s171 :: s172 :: s173 :: s174 :: s175 :: s176 :: s177 :: s178 :: s179 :: s180 :: s181 :: s182 :: s183 :: s184 :: s185 :: s186 :: s187 :: s188 :: s189 :: s190 :: s191 :: s192 :: s193 :: s194 :: s195 :: s196 :: s197 :: s198 :: s199 :: s200 :: s201 :: s202 :: s203 :: s204 :: s205 :: s206 :: s207 :: s208 :: s209 :: s210 :: s211 :: s212 :: s213 :: s214 :: s215 :: s216 :: s217 :: s218 :: s219 :: s220 :: s221 :: s222 :: s223 :: s224 :: s225 :: s226 :: s227 :: s228 :: s229 :: s230 :: s231 :: s232 :: s233 :: s234 :: s235 :: s236 :: s237 :: s238 :: s239 :: s240 :: s241 :: s242 :: s243 :: s244 :: s245 :: s246 :: s247 :: s248 :: s249 :: []).toArray, []⟩ w5 := by
  conv => arg 2; arg 1; whnf
  have htr := hR.tr
  have hi' : (i : Int) < (j : Int) := by omega
  have hi0 : (0 : Int) ≤ (i : Int) := by omega
  have hLx := hL.l2.later hBx
  have hst := hR.st
  have hq' : (q : Int) < (len : Int) := by omega
  have hq0 : (0 : Int) ≤ (q : Int) := by omega
  have hgq := hG.room q hql
  have lB0w : B0 ≤ w.heap.size := by have h1 := hL.lb; have h2 := ltCell hL.l2.c3; dsimp only at h2; omega
  go_loopw [7] (fun cc wr => ∃ (T : Int), cc = .int .i64 T ∧ low ≤ T ∧ T ≤ 710000 ∧ (∀ u, low ≤ u → u < T → fullAt j g f P (q : Int) u) ∧ Below w5.heap.size w5 wr) (fun cc _ => (800000 - intOf cc).toNat)
  case atStart => exact ⟨low, rfl, Int.le_refl _, by omega, fun u h1 h2 => by omega, Below.refl _ _⟩
  case round =>
    obtain ⟨T, rfl, hT0, hT1, hTf, hB8⟩ := hrel
    have hB8w := Below.join hBx (Nat.le_refl _) hB8
    have hTh := there_any b (some ⟨ba, oa, none⟩) len cap gap (some ⟨bt, ot, none⟩) j cap' f (some ⟨bp, op, none⟩) nc P last (q : Int) T wr.drew hR hQ ((hLx.later hB8).later (Below.refl wr.heap.size wr).drew) (hT.grow hB8w.drew) (hP.grow hB8w.drew)
    have hthl := thereAll_le (f := f) (s := (q : Int)) (t := T) hn10 j (Nat.le_refl _)
    have c0 := cellLater hB8 hLx.c0
    have gq1 := cellLater hB8w gq
    have hTf' : Hid _ := hTf
    clear hTf
    by_cases hfull : g q ≤ (thereAll f P (q : Int) T j : Int)
    · have hfl : Hid (fullAt j g f P (q : Int) T) := by unfold Hid fullAt; rw [Int.toNat_natCast]; exact hfull
      generalize thereAll f P (q : Int) T j = th at hfull hTh hthl
      go_wp2
      go_region_held3 (fun w' => w'.cell? ⟨b, 0, none⟩ = some (.slice (some ⟨ba, oa, none⟩) len cap) ∧ w'.cell? ⟨ba, oa + q, none⟩ = some (.int .i64 (g q))) (first | go_keep | (go_split_ands; refine ⟨?_, ?_⟩ <;> exact cellLater hB9 (by assumption))) ((go_at_call 137; refine hTh.mono ?_; rintro _ w9 ⟨rfl, hB9⟩))
      have hB9a := Below.join hB8 (Nat.le_refl _) (Below.join (Below.refl wr.heap.size wr).drew (Nat.le_refl _) hB9)
      have y3 := cellLater hB9a hLx.c3
      clear hTh hB9 c0 gq1
      go_wp2
      clear y3
      have hT00 : 0 ≤ T := by omega
      go_loopw [15, 156] (fun uu xx wr => ∃ (x : Nat), x ≤ j ∧ xx = .int .i64 x ∧ uu = .int .i64 (upAll f P (q : Int) T x) ∧ Below w5.heap.size w5 wr) (fun _ xx _ => j - (intOf xx).toNat)
      case atStart => exact ⟨0, Nat.zero_le _, rfl, rfl, hB9a⟩
      case round =>
        obtain ⟨x, hx, rfl, rfl, hBx4⟩ := hrel
        by_cases hxlt : x < j
        · have hx' : (x : Int) < (j : Int) := by omega
          have hx0 : (0 : Int) ≤ (x : Int) := by omega
          obtain ⟨bpx, opx, lpx, lpcx, ecx, _, _, px, hinx, _⟩ := hP x hxlt
          simp only [Option.some.injEq, Addr.mk.injEq] at ecx
          obtain ⟨rfl, rfl, _⟩ := ecx
          obtain ⟨btx, otx, lax, lcx, etx, _, _, tx0, tx1, tx2, tx3, tx4, hlgx, _⟩ := hT x hxlt
          simp only [Option.some.injEq, Addr.mk.injEq] at etx
          obtain ⟨rfl, rfl, _⟩ := etx
          have hBxw := Below.join hBx (Nat.le_refl _) hBx4
          have px1 := cellLater hBxw px
          have d0 := cellLater hBxw tx0
          have d1 := cellLater hBxw tx1
          have d2 := cellLater hBxw tx2
          have d3 := cellLater hBxw tx3
          have d4 := cellLater hBxw tx4
          have c2 := cellLater hBx4 hLx.c2
          have hnx := hQ.le x hxlt
          have hRx := hR.train x hxlt
          have hnlx := hRx.nl
          have hAx := b1 wr (.cells #[.int .i64 (f x).frm, .int .i64 (f x).ready, .int .i64 (f x).due, .int .i64 (f x).weight, .slice lax (f x).nl lcx] 72)
          have hTx := Go.heap_alloc_new wr (.cells #[.int .i64 (f x).frm, .int .i64 (f x).ready, .int .i64 (f x).due, .int .i64 (f x).weight, .slice lax (f x).nl lcx] 72)
          go_wp2
          refine nameW fun Vx hVx => ?_
          rw [← hVx] at hAx hTx
          have ex4 := cell_of_row Vx wr.heap.size 4 _ _ _ hTx
          simp at ex4
          have hBVx := Below.join hBx4 (Nat.le_refl _) hAx
          generalize wr.heap.size = pbx at ex4 ⊢
          clear hVx hTx px1 d0 d1 d2 d3 d4 c2 hAx hBxw
          go_loopw [15, 171] (fun uu mm wr => ∃ (m : Nat), m ≤ (P x).n ∧ mm = .int .i64 m ∧ uu = .int .i64 (upRow f P (q : Int) T x (upAll f P (q : Int) T x) m) ∧ Below Vx.heap.size Vx wr) (fun _ mm _ => (P x).n - (intOf mm).toNat)
          case atStart => exact ⟨0, Nat.zero_le _, rfl, rfl, Below.refl _ _⟩
          case round =>
            obtain ⟨m, hm, rfl, rfl, hBm⟩ := hrel
            by_cases hmlt : m < (P x).n
            · have hm' : (m : Int) < ((P x).n : Int) := by omega
              have hm0 : (0 : Int) ≤ (m : Int) := by omega
              have hml : (m : Int) < ((f x).nl : Int) := by omega
              have hBmw := Below.join hBx (Nat.le_refl _) (Below.join hBVx (Nat.le_refl _) hBm)
              obtain ⟨bl, ol, rfl, _, _, g0, g1, g2⟩ := hlgx m (by omega)
              obtain ⟨bi, oi, rfl, _, _, q0⟩ := hinx m hmlt
              obtain ⟨s0, s1⟩ := hQ.at0 x hxlt m hmlt
              obtain ⟨r0, r1, r2, r3⟩ := hRx.leg m (by omega)
              replace g0 := cellLater hBmw g0
              replace g1 := cellLater hBmw g1
              replace q0 := cellLater hBmw q0
              have ex4' := cellLater hBm ex4
              have hl6 := hQ.l1
              have hset : ∀ e, ((f x).leg m).to = (q : Int) → leaveO f P x m = some e → T ≤ e → (upRow f P (q : Int) T x (upAll f P (q : Int) T x) m < 0 ∨ e < upRow f P (q : Int) T x (upAll f P (q : Int) T x) m) → upRow f P (q : Int) T x (upAll f P (q : Int) T x) (m + 1) = e := fun e h1 h2 h3 h4 => by simp only [upRow]; rw [if_pos h1, h2]; simp only [if_pos (And.intro h3 h4)]
              have hkeep : ∀ e, ((f x).leg m).to = (q : Int) → leaveO f P x m = some e → ¬ (T ≤ e ∧ (upRow f P (q : Int) T x (upAll f P (q : Int) T x) m < 0 ∨ e < upRow f P (q : Int) T x (upAll f P (q : Int) T x) m)) → upRow f P (q : Int) T x (upAll f P (q : Int) T x) (m + 1) = upRow f P (q : Int) T x (upAll f P (q : Int) T x) m := fun e h1 h2 h3 => by simp only [upRow]; rw [if_pos h1, h2]; simp only [if_neg h3]
              have hnone : ((f x).leg m).to = (q : Int) → leaveO f P x m = none → upRow f P (q : Int) T x (upAll f P (q : Int) T x) (m + 1) = upRow f P (q : Int) T x (upAll f P (q : Int) T x) m := fun h1 h2 => by simp only [upRow]; rw [if_pos h1, h2]
              have hoth : ((f x).leg m).to ≠ (q : Int) → upRow f P (q : Int) T x (upAll f P (q : Int) T x) (m + 1) = upRow f P (q : Int) T x (upAll f P (q : Int) T x) m := fun h1 => by simp only [upRow]; rw [if_neg h1]
              generalize upRow f P (q : Int) T x (upAll f P (q : Int) T x) m = U at hset hkeep hnone hoth ⊢
              by_cases hto : ((f x).leg m).to = (q : Int)
              · have hto' : (((f x).leg m).to != (q : Int)) = false := by simpa using hto
                by_cases hm1 : m + 1 < (P x).n
                · have hm1' : (m : Int) + 1 < ((P x).n : Int) := by omega
                  have hn1 : (0 : Int) ≤ (m : Int) + 1 := by omega
                  have hn2 : ((m : Int) + 1).toNat = m + 1 := by omega
                  have hw1 : IntKind.i64.wrap ((m : Int) + 1) = (m : Int) + 1 := by rw [IntKind.wrap_i64]; omega
                  obtain ⟨bi', oi', ei, _, _, q1⟩ := hinx (m + 1) hm1
                  simp only [Option.some.injEq, Addr.mk.injEq] at ei
                  obtain ⟨rfl, rfl, _⟩ := ei
                  replace q1 := cellLater hBmw q1
                  have hlv : leaveO f P x m = some ((P x).s (m + 1)) := by unfold leaveO; rw [if_pos hm1]
                  by_cases h1 : T ≤ (P x).s (m + 1)
                  · by_cases h2 : U < 0
                    · have ev : Hid (upRow f P (q : Int) T x (upAll f P (q : Int) T x) (m + 1) = (P x).s (m + 1)) := hset _ hto hlv h1 (Or.inl h2)
                      clear hset hkeep hnone hoth hto hlv
                      go_wp2
                      go_roundw
                      case rel => first | exact ⟨m + 1, by omega, by go_num, by rw [ev.out], hBm⟩ | ((repeat apply Exists.intro); exact ⟨⟨m + 1, by omega, by go_num, by rw [ev.out], hBm⟩, rfl⟩)
                      case measure => simp [intOf]; omega
                    · by_cases h3 : (P x).s (m + 1) < U
                      · have ev : Hid (upRow f P (q : Int) T x (upAll f P (q : Int) T x) (m + 1) = (P x).s (m + 1)) := hset _ hto hlv h1 (Or.inr h3)
                        clear hset hkeep hnone hoth hto hlv
                        go_wp2
                        go_roundw
                        case rel => first | exact ⟨m + 1, by omega, by go_num, by rw [ev.out], hBm⟩ | ((repeat apply Exists.intro); exact ⟨⟨m + 1, by omega, by go_num, by rw [ev.out], hBm⟩, rfl⟩)
                        case measure => simp [intOf]; omega
                      · have ev : Hid (upRow f P (q : Int) T x (upAll f P (q : Int) T x) (m + 1) = U) := hkeep _ hto hlv (fun h => by rcases h.2 with h' | h'; (· exact h2 h'); (· exact h3 h'))
                        clear hset hkeep hnone hoth hto hlv
                        go_wp2
                        go_roundw
                        case rel => first | exact ⟨m + 1, by omega, by go_num, by rw [ev.out], hBm⟩ | ((repeat apply Exists.intro); exact ⟨⟨m + 1, by omega, by go_num, by rw [ev.out], hBm⟩, rfl⟩)
                        case measure => simp [intOf]; omega
                  · have ev : Hid (upRow f P (q : Int) T x (upAll f P (q : Int) T x) (m + 1) = U) := hkeep _ hto hlv (fun h => h1 h.1)
                    clear hset hkeep hnone hoth hto hlv
                    go_wp2
                    go_roundw
                    case rel => first | exact ⟨m + 1, by omega, by go_num, by rw [ev.out], hBm⟩ | ((repeat apply Exists.intro); exact ⟨⟨m + 1, by omega, by go_num, by rw [ev.out], hBm⟩, rfl⟩)
                    case measure => simp [intOf]; omega
                · have hm1' : ¬ ((m : Int) + 1 < ((P x).n : Int)) := by omega
                  by_cases hmn : m + 1 < (f x).nl
                  · have hme : ((m : Int) + 1 == ((f x).nl : Int)) = false := by simp; omega
                    have hlv : leaveO f P x m = none := by unfold leaveO; rw [if_neg hm1, if_pos hmn]
                    have hneg : ¬ (T ≤ -1) := by omega
                    have ev : Hid (upRow f P (q : Int) T x (upAll f P (q : Int) T x) (m + 1) = U) := hnone hto hlv
                    clear hset hkeep hnone hoth hto hlv
                    go_wp2
                    go_roundw
                    case rel => first | exact ⟨m + 1, by omega, by go_num, by rw [ev.out], hBm⟩ | ((repeat apply Exists.intro); exact ⟨⟨m + 1, by omega, by go_num, by rw [ev.out], hBm⟩, rfl⟩)
                    case measure => simp [intOf]; omega
                  · have hme : ((m : Int) + 1 == ((f x).nl : Int)) = true := by simp; omega
                    have hlv : leaveO f P x m = some ((P x).s m + ((f x).leg m).run) := by unfold leaveO; rw [if_neg hm1, if_neg hmn]
                    have hws : IntKind.i64.wrap ((P x).s m + ((f x).leg m).run) = (P x).s m + ((f x).leg m).run := by rw [IntKind.wrap_i64]; omega
                    by_cases h1 : T ≤ (P x).s m + ((f x).leg m).run
                    · by_cases h2 : U < 0
                      · have ev : Hid (upRow f P (q : Int) T x (upAll f P (q : Int) T x) (m + 1) = (P x).s m + ((f x).leg m).run) := hset _ hto hlv h1 (Or.inl h2)
                        clear hset hkeep hnone hoth hto hlv
                        go_wp2
                        go_quiet (fail)
                        go_wp2
                        go_roundw
                        case rel => first | exact ⟨m + 1, by omega, by go_num, by rw [ev.out], Below.join hBm (Nat.le_refl _) (below_drewN (Below.refl _ _) _)⟩ | ((repeat apply Exists.intro); exact ⟨⟨m + 1, by omega, by go_num, by rw [ev.out], Below.join hBm (Nat.le_refl _) (below_drewN (Below.refl _ _) _)⟩, rfl⟩)
                        case measure => simp [intOf]; omega
                      · by_cases h3 : (P x).s m + ((f x).leg m).run < U
                        · have ev : Hid (upRow f P (q : Int) T x (upAll f P (q : Int) T x) (m + 1) = (P x).s m + ((f x).leg m).run) := hset _ hto hlv h1 (Or.inr h3)
                          clear hset hkeep hnone hoth hto hlv
                          go_wp2
                          go_quiet (fail)
                          go_wp2
                          go_roundw
                          case rel => first | exact ⟨m + 1, by omega, by go_num, by rw [ev.out], Below.join hBm (Nat.le_refl _) (below_drewN (Below.refl _ _) _)⟩ | ((repeat apply Exists.intro); exact ⟨⟨m + 1, by omega, by go_num, by rw [ev.out], Below.join hBm (Nat.le_refl _) (below_drewN (Below.refl _ _) _)⟩, rfl⟩)
                          case measure => simp [intOf]; omega
                        · have ev : Hid (upRow f P (q : Int) T x (upAll f P (q : Int) T x) (m + 1) = U) := hkeep _ hto hlv (fun h => by rcases h.2 with h' | h'; (· exact h2 h'); (· exact h3 h'))
                          clear hset hkeep hnone hoth hto hlv
                          go_wp2
                          go_quiet (fail)
                          go_wp2
                          go_roundw
                          case rel => first | exact ⟨m + 1, by omega, by go_num, by rw [ev.out], Below.join hBm (Nat.le_refl _) (below_drewN (Below.refl _ _) _)⟩ | ((repeat apply Exists.intro); exact ⟨⟨m + 1, by omega, by go_num, by rw [ev.out], Below.join hBm (Nat.le_refl _) (below_drewN (Below.refl _ _) _)⟩, rfl⟩)
                          case measure => simp [intOf]; omega
                    · have ev : Hid (upRow f P (q : Int) T x (upAll f P (q : Int) T x) (m + 1) = U) := hkeep _ hto hlv (fun h => h1 h.1)
                      clear hset hkeep hnone hoth hto hlv
                      go_wp2
                      go_quiet (fail)
                      go_wp2
                      go_roundw
                      case rel => first | exact ⟨m + 1, by omega, by go_num, by rw [ev.out], Below.join hBm (Nat.le_refl _) (below_drewN (Below.refl _ _) _)⟩ | ((repeat apply Exists.intro); exact ⟨⟨m + 1, by omega, by go_num, by rw [ev.out], Below.join hBm (Nat.le_refl _) (below_drewN (Below.refl _ _) _)⟩, rfl⟩)
                      case measure => simp [intOf]; omega
              · have hto' : (((f x).leg m).to != (q : Int)) = true := by simpa using hto
                have ev : Hid (upRow f P (q : Int) T x (upAll f P (q : Int) T x) (m + 1) = U) := hoth hto
                clear hset hkeep hnone hoth
                go_wp2
                go_roundw
                case rel => first | exact ⟨m + 1, by omega, by go_num, by rw [ev.out], hBm⟩ | ((repeat apply Exists.intro); exact ⟨⟨m + 1, by omega, by go_num, by rw [ev.out], hBm⟩, rfl⟩)
                case measure => simp [intOf]; omega
            · obtain rfl : m = (P x).n := by omega
              go_wp2
              go_roundw
              case rel => exact ⟨x + 1, by omega, by go_num, by simp only [upAll], Below.join hBVx (Nat.le_refl _) hBm⟩
              case measure => simp [intOf]; omega
        · obtain rfl : x = j := by omega
          have hT' : Hid _ := hTf'
          by_cases hu : upAll f P (q : Int) T x < 0
          · have hall : Hid (∀ t, lowOf x f P gap last i ≤ t → fullAt x g f P (stOf f P i) t) := by
              unfold Hid
              rw [hlow.out, hqs.out]
              intro t ht
              rcases Int.lt_or_le t T with h1 | h1
              · exact hTf'.out t ht h1
              · exact full_ever hT00 hu hfl.out t h1
            go_wp2
            go_ret
            exact ⟨Or.inl ⟨hall.out, rfl, Below.join hBx (Nat.le_refl _) hBx4⟩, trivial⟩
          · have hu0 : 0 ≤ upAll f P (q : Int) T x := by omega
            have hub : upAll f P (q : Int) T x ≤ 700000 := by
              obtain ⟨⟨y, hy, k, hky, _, hlv2⟩, _⟩ := (upAll_is hT00 x).some hu0
              have hny := hQ.le y hy
              unfold leaveO at hlv2
              split at hlv2
              · have := hQ.at0 y hy (k + 1) (by omega); have := hQ.l1; simp only [Option.some.injEq] at hlv2; omega
              · split at hlv2
                · cases hlv2
                · have h1 := hQ.at0 y hy k hky
                  obtain ⟨r0, r1, _⟩ := (hR.train y hy).leg k (by omega)
                  have := hQ.l1
                  simp only [Option.some.injEq] at hlv2; omega
            have hnew : Hid (∀ u, low ≤ u → u < upAll f P (q : Int) T x + 1 → fullAt x g f P (q : Int) u) := by
              intro u h1 h2
              rcases Int.lt_or_le u T with h3 | h3
              · exact hTf'.out u h1 h3
              · exact full_until hT00 hu0 hfl.out u h3 (by omega)
            have hTu := ((upAll_is (f := f) (P := P) (s := (q : Int)) hT00 x).some hu0).2.1
            generalize upAll f P (q : Int) T x = U at hu hu0 hub hnew hTu ⊢
            go_wp2
            go_roundw
            case rel => exact ⟨U + 1, by go_num, by omega, by omega, hnew.out, hBx4⟩
            case measure => simp [intOf]; omega
    · have hfirst : Hid (IsFirst j g f P (stOf f P i) (lowOf j f P gap last i) T) := by
        unfold Hid
        rw [hlow.out, hqs.out]
        exact ⟨hT0, by unfold fullAt; rw [Int.toNat_natCast]; exact hfull, hTf'.out⟩
      generalize thereAll f P (q : Int) T j = th at hfull hTh hthl
      go_wp2
      go_region_held3 (fun w' => w'.cell? ⟨b, 0, none⟩ = some (.slice (some ⟨ba, oa, none⟩) len cap) ∧ w'.cell? ⟨ba, oa + q, none⟩ = some (.int .i64 (g q))) (first | go_keep | (go_split_ands; refine ⟨?_, ?_⟩ <;> exact cellLater hB9 (by assumption))) ((go_at_call 137; refine hTh.mono ?_; rintro _ w9 ⟨rfl, hB9⟩))
      have hB9a := Below.join hB8 (Nat.le_refl _) (Below.join (Below.refl wr.heap.size wr).drew (Nat.le_refl _) hB9)
      have hB9w := Below.join hBx (Nat.le_refl _) hB9a
      clear hTh hB9 c0 gq1
      go_wp2
      exact next_e B0 b gR _ len cap gap _ j cap' _ nc v P last i T w9 (NextPost B0 b gR (some ⟨ba, oa, none⟩) len cap g gap (some ⟨bt, ot, none⟩) j cap' f (some ⟨bp, op, none⟩) nc P last i w) htr hi hn10 (hL.later hB9w) (fun v' W hb hlp => Or.inr ⟨T, v', hfirst.out, rfl, (hB9w.mono lB0w).trans hb, hlp⟩)
end Go.Proofs.YtelickcfodcmaaaGreatDoor
