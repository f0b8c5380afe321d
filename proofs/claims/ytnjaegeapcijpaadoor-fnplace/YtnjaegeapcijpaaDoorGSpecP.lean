/-
  The model's next leg: the last statement.
  The model's next leg: the first tick in which there is room.
  The model's next leg, placed.
  The model's Place: what it answers.
-/
import Derived.Test.YtnjaegeapcijpaaDoorGSp
import Derived.Deep.RegionLaw
import Derived.Deep.DeepCutAuto
import Derived.Maps.AppendAt
import Derived.Test.YtnjaegeapcijpaaDoorGPr
import Derived.Test.YtnjaegeapcijpaaDoorSpecE
namespace Go.Proofs.YtnjaegeapcijpaaDoor
open Go.RowKit

/-- the code from a region on -/
def fromRegion (id : Nat) : Code → Option Code
  | .seq (.region i ops d) r => if i = id then some (.seq (.region i ops d) r) else fromRegion id r
  | .seq a b => match fromRegion id a with
    | some c => some c
    | none => fromRegion id b
  | .block _ c => fromRegion id c
  | .scope c => fromRegion id c
  | .loop c => fromRegion id c
  | .cond _ a b => match fromRegion id a with
    | some c => some c
    | none => fromRegion id b
  | _ => none
noncomputable def nextE : Code := ((Tryd.f19.body.bind (fromRegion 43)).getD .skip)

set_option maxRecDepth 20000 in
set_option maxHeartbeats 16000000 in
theorem next_e {s2 s3 s4 s5 s6 s8 s9 s10 s11 s12 s13 s14 s15 s16 s17 s18 s19 s20 s21 s22 s23 s24 s25 s26 s27 s28 s29 s30 s31 s32 s33 s34 s35 s36 s37 s38 s39 s40 s41 s42 s43 s44 s45 s46 s47 s48 s49 s50 s51 s52 s53 s54 s55 s56 s57 s58 s59 s60 s61 s62 s63 s64 s65 s66 s67 s68 s69 s70 s71 s72 s73 s74 s75 s76 s77 s78 s79 s80 s81 s82 s83 s84 s85 s86 s87 s88 s89 s90 s91 s92 s93 s94 s95 s96 s97 s98 s99 s100 s101 s102 s103 s104 s105 s106 s107 s108 s109 s110 s111 s112 s113 s114 s115 s116 s117 s118 s119 s120 s121 s122 s123 s124 s125 s126 s127 s128 s129 s130 s131 s132 s133 s134 s135 s136 s137 s138 s139 s140 s141 s142 s143 s144 s145 s146 s147 s148 s149 s150 s151 s152 s153 s154 s155 s156 s157 s158 s159 s160 s161 s162 s163 s164 s165 s166 s167 s168 s169 s170 s171 s172 s173 s174 s175 s176 s177 s178 s179 s180 s181 s182 s183 s184 s185 s186 s187 s188 s189 s190 s191 s192 s193 s194 s195 s196 s197 s198 s199 s200 s201 s202 s203 s204 s205 s206 s207 s208 s209 s210 s211 s212 s213 s214 s215 s216 s217 s218 s219 s220 s221 s222 s223 s224 s225 s226 s227 s228 s229 s230 s231 s232 s233 s234 s235 s236 s237 s238 s239 s240 s241 s242 s243 s244 s245 s246 s247 s248 s249 : Value} (B0 b gR : Nat) (a : Option Addr) (len cap : Nat) (gap : Int) (a' : Option Addr) (np cap' : Nat) (c : Option Addr) (nc : Nat) (v : Nat → Value) (P : Nat → RowD) (last : Int) (i : Nat) (T : Int) (w9 : World) (post : Ending → World → Prop) (_hnp : np ≤ 5) (hi : i < np) (hn10 : ∀ j, j < np → (P j).n ≤ 10)
    (hLP : LP B0 w9 b gR a len cap gap a' np cap' c nc v P last) (hpost : ∀ v' W, Below B0 w9 W → LP B0 W b gR a len cap gap a' np cap' c nc v' (moreP P i T) T → post (.returned (.int .i64 0)) W) :
    Code.wp Tryd.prog nextE (bodyPost Tryd.prog Tryd.f19 (fun e w' => post e w' ∧ True)) ⟨#[.pointer (some ⟨b, 0, none⟩), .int .i64 i, s2, s3, s4, s5, s6, .int .i64 T, s8, s9, s10, s11, s12, s13, s14, s15, s16, s17, s18, s19, s20, s21, s22, s23, s24, s25, s26, s27, s28, s29, s30, s31, s32, s33, s34, s35, s36, s37, s38, s39, s40, s41, s42, s43, s44, s45, s46, s47, s48, s49, s50, s51, s52, s53, s54, s55, s56, s57, s58, s59, s60, s61, s62, s63, s64, s65, s66, s67, s68, s69, s70, s71, s72, s73, s74, s75, s76, s77, s78, s79, s80, s81, s82, s83, s84, s85, s86, s87, s88, s89, s90, s91, s92, s93, s94, s95, s96, s97, s98, s99, s100, s101, s102, s103, s104, s105, s106, s107, s108, s109, s110, s111, s112, s113, s114, s115, s116, s117, s118, s119, s120, s121, s122, s123, s124, s125, s126, s127, s128, s129, s130, s131, s132, s133, s134, s135, s136, s137, s138, s139, s140, s141, s142, s143, s144, s145, s146, s147, s148, s149, s150, s151, s152, s153, s154, s155, s156, s157, s158, s159, s160, s161, s162, s163, s164, s165, s166, s167, s168, s169, s170, s171, s172, s173, s174, s175, s176, s177, s178, s179, s180, s181, s182, s183, s184, s185, s186, s187, s188, s189, s190, s191, s192, s193, s194, s195, s196, s197, s198, s199, s200, s201, s202, s203, s204, s205, s206, s207, s208, s209, s210, s211, s212, s213, s214, s215, s216, s217, s218, s219, s220, s221, s222, s223, s224, s225, s226, s227, s228, s229, s230, s231, s232, s233, s234, s235, s236, s237, s238, s239, s240, s241, s242, s243, s244, s245, s246, s247, s248, s249], []⟩ w9 := by
  conv => arg 2; whnf
  have hi' : (i : Int) < (np : Int) := by omega
  have hi0 : (0 : Int) ≤ (i : Int) := by omega
  have hpost' : Hid _ := hpost
  clear hpost
  obtain ⟨ecR, hvi, hvz⟩ := hLP.row i hi
  subst ecR
  have y3 := hLP.l2.c3
  have y4 := hLP.l2.c4
  have yz := hLP.z4
  have lB0 : B0 ≤ w9.heap.size := by have h1 := hLP.lb; have h2 := ltCell y3; dsimp only at h2; omega
  obtain ⟨i0, ii, iz0, iz1, iz2⟩ := info_parts Tryd.infoInt
  have hA9 := Below.join (Below.refl w9.heap.size w9).drew (Nat.le_refl _) (b1 w9.drew (.cells #[.int .i64 T] 3))
  have hownA := (hLP.later hA9).own i hi
  have hnl2 := hn10 i hi
  obtain ⟨v', W1, hap, hown1, hgr1, _, hloc1⟩ := run_append_own_at (P := Tryd.prog) (w9.drew.alloc (.cells #[.int .i64 T] 3)) B0 23 23 3 i0 _ 1 8 Tryd.underlying23 ii iz0 iz1 iz2 rfl (by decide) (v i) (P i).n (rowCells (P i)) hownA ⟨w9.heap.size, 0, none⟩ 1 1 [.int .i64 T] rfl (fun jj u hj => by have h := cells1_lie (W := w9.drew) (x := .int .i64 T) (t := 3) jj u hj; exact h) one1 (by unfold maxLen; omega) (by omega) (by simp; omega)
  obtain ⟨gn, cn, rfl⟩ := Joins.ownsRow_form hown1 (by omega)
  have hap' : Hid _ := hap
  clear hap
  have hput := hLP.put hA9 hi hown1 hgr1 hloc1
  have hput' : Hid _ := hput
  have hLA := hLP.later hA9
  have lgA := ltCell (hLA.row i hi).2.1
  have lbA := ltCell hLA.l2.c4
  dsimp only at lgA lbA
  have hgk := hgr1.block _ lgA (fun e => (hLA.off i hi).2 e.symm)
  have hbk := hgr1.block _ lbA (fun e => (hLA.off i hi).1 e.symm)
  have m0 := (World.cell?_of_block (w' := W1) (a := ⟨_, i, none⟩) hgk).trans (hLA.row i hi).2.1
  have mz := (World.frozen?_of_block (w' := W1) (a := ⟨_, i, none⟩) hgk).trans (hLA.row i hi).2.2
  have m4 := (World.cell?_of_block (w' := W1) (a := ⟨b, 4, none⟩) hbk).trans hLA.l2.c4
  have m3 := (World.cell?_of_block (w' := W1) (a := ⟨b, 3, none⟩) hbk).trans hLA.l2.c3
  have mz4 := (World.frozen?_of_block (w' := W1) (a := ⟨b, 4, none⟩) hbk).trans hLA.z4
  have hneb := hLA.ne
  have lg9 := ltCell hvi
  have lb9 := ltCell y3
  dsimp only at lg9 lb9
  clear hput hown1 hgr1 hloc1 hLA hgk hbk
  go_wp2
  go_region_law (refine step_append_eq _ (by rfl) _ _ _ (by rfl) _ _ _ _ (by rfl) (by rfl) hap'.out ?_)
  all_goals
    go_wp2
    go_ret
    exact ⟨hpost'.out _ _ hput'.out.2 hput'.out.1, trivial⟩
end Go.Proofs.YtnjaegeapcijpaaDoor

namespace Go.Proofs.YtnjaegeapcijpaaDoor
open Go.RowKit

/-- the first region of a code -/
def firstReg : Code → Option Nat
  | .region i _ _ => some i
  | .seq a b => match firstReg a with
    | some i => some i
    | none => firstReg b
  | .block _ c => firstReg c
  | .scope c => firstReg c
  | .loop c => firstReg c
  | _ => none
/-- the body of the loop that begins with a region -/
def loopAt (id : Nat) : Code → Option Code
  | .loop c => match firstReg c with
    | some i => if i = id then some c else loopAt id c
    | none => loopAt id c
  | .seq a b => match loopAt id a with
    | some c => some c
    | none => loopAt id b
  | .block _ c => loopAt id c
  | .scope c => loopAt id c
  | .cond _ a b => match loopAt id a with
    | some c => some c
    | none => loopAt id b
  | _ => none
noncomputable def nextL : Code := ((Tryd.f19.body.bind (loopAt 21)).getD .skip)
/-- what a next leg answers -/
def NextPost (B0 b gR : Nat) (a : Option Addr) (len cap : Nat) (g : Nat → Int) (gap : Int) (a' : Option Addr) (np cap' : Nat) (f : Nat → TrainD) (c : Option Addr) (nc : Nat) (P : Nat → RowD) (last : Int) (i : Nat) (w : World) (e : Ending) (w' : World) : Prop :=
  ((∀ t, lowOf np f P gap last i ≤ t → fullAt np g f P (stOf f P i) t) ∧ e = .returned (.int .i64 3) ∧ Below w.heap.size w w') ∨
  (∃ t v', IsFirst np g f P (stOf f P i) (lowOf np f P gap last i) t ∧ e = .returned (.int .i64 0) ∧ Below B0 w w' ∧ LP B0 w' b gR a len cap gap a' np cap' c nc v' (moreP P i t) t)

set_option maxRecDepth 20000 in
set_option maxHeartbeats 16000000 in
theorem next_l {s2 s3 s4 s5 s6 s8 s9 s10 s11 s12 s13 s15 s16 s17 s18 s19 s20 s21 s22 s23 s24 s25 s26 s27 s28 s29 s30 s31 s32 s33 s34 s35 s36 s37 s38 s39 s40 s41 s42 s43 s44 s45 s46 s47 s48 s49 s50 s51 s52 s53 s54 s55 s56 s57 s58 s59 s60 s61 s62 s63 s64 s65 s66 s67 s68 s69 s70 s71 s72 s73 s74 s75 s76 s77 s78 s79 s80 s81 s82 s83 s84 s85 s86 s87 s88 s89 s90 s91 s92 s93 s94 s95 s96 s97 s98 s99 s100 s101 s102 s103 s104 s105 s106 s107 s108 s109 s110 s111 s112 s113 s114 s115 s116 s117 s118 s119 s120 s121 s122 s123 s124 s125 s126 s127 s128 s129 s130 s131 s132 s133 s134 s135 s136 s137 s138 s139 s140 s141 s142 s143 s144 s145 s146 s147 s148 s149 s150 s151 s152 s153 s154 s155 s156 s157 s158 s159 s160 s161 s162 s163 s164 s165 s166 s167 s168 s169 s170 s171 s172 s173 s174 s175 s176 s177 s178 s179 s180 s181 s182 s183 s184 s185 s186 s187 s188 s189 s190 s191 s192 s193 s194 s195 s196 s197 s198 s199 s200 s201 s202 s203 s204 s205 s206 s207 s208 s209 s210 s211 s212 s213 s214 s215 s216 s217 s218 s219 s220 s221 s222 s223 s224 s225 s226 s227 s228 s229 s230 s231 s232 s233 s234 s235 s236 s237 s238 s239 s240 s241 s242 s243 s244 s245 s246 s247 s248 s249 : Value} (B0 b gR ba oa bt ot bp op : Nat) (len cap : Nat) (g : Nat → Int) (gap : Int) (j cap' : Nat) (f : Nat → TrainD) (nc : Nat) (v : Nat → Value) (P : Nat → RowD) (last : Int) (i q : Nat) (low : Int) (w w5 : World) (K : Act → World → Prop)
    (hK : ∀ x W, Code.wp Tryd.prog nextE (bodyPost Tryd.prog Tryd.f19 (fun e w' => NextPost B0 b gR (some ⟨ba, oa, none⟩) len cap g gap (some ⟨bt, ot, none⟩) j cap' f (some ⟨bp, op, none⟩) nc P last i w e w' ∧ True)) x W → K x W) (hR : RightL len j f) (hG : RightG len g gap j f) (hQ : PartP j f P last) (hi : i < j) (hn10 : ∀ x, x < j → (P x).n ≤ 10)
    (hL : LP B0 w b gR (some ⟨ba, oa, none⟩) len cap gap (some ⟨bt, ot, none⟩) j cap' (some ⟨bp, op, none⟩) nc v P last) (hT : IsTrains 0 w.heap.size w (some ⟨bt, ot, none⟩) j f) (hP : IsRows 0 w.heap.size w (some ⟨bp, op, none⟩) j P) (hBx : Below w.heap.size w w5) (hql : q < len) (gq : w.cell? ⟨ba, oa + q, none⟩ = some (.int .i64 (g q)))
    (hqs : Hid (stOf f P i = (q : Int))) (hlow : Hid (lowOf j f P gap last i = low)) (hl0 : 0 ≤ low) (hl1 : low ≤ 700000) :
    Code.wp Tryd.prog (Code.loop nextL) (Exit.inBlock 4 (Exit.then K (bodyPost Tryd.prog Tryd.f19 (fun e w' => NextPost B0 b gR (some ⟨ba, oa, none⟩) len cap g gap (some ⟨bt, ot, none⟩) j cap' f (some ⟨bp, op, none⟩) nc P last i w e w' ∧ True)))) ⟨(.pointer (some ⟨b, 0, none⟩) :: .int .i64 i :: s2 :: s3 :: s4 :: s5 :: s6 :: .int .i64 low :: s8 :: s9 :: s10 :: s11 :: s12 :: s13 :: .int .i64 q :: s15 :: s16 :: s17 :: s18 :: s19 :: s20 :: s21 :: s22 :: s23 :: s24 :: s25 :: s26 :: s27 :: s28 :: s29 :: s30 :: s31 :: s32 :: s33 :: s34 :: s35 :: s36 :: s37 :: s38 :: s39 :: s40 :: s41 :: s42 :: s43 :: s44 :: s45 :: s46 :: s47 :: s48 :: s49 :: s50 :: s51 :: s52 :: s53 :: s54 :: s55 :: s56 :: s57 :: s58 :: s59 :: s60 :: s61 :: s62 :: s63 :: s64 :: s65 :: s66 :: s67 :: s68 :: s69 :: s70 :: s71 :: s72 :: s73 :: s74 :: s75 :: s76 :: s77 :: s78 :: s79 :: s80 :: s81 :: s82 :: s83 :: s84 :: s85 :: s86 :: s87 :: s88 :: s89 :: s90 :: s91 :: s92 :: s93 :: s94 :: s95 :: s96 :: s97 :: s98 :: s99 :: s100 :: s101 :: s102 :: s103 :: s104 :: s105 :: s106 :: s107 :: s108 :: s109 :: s110 :: s111 :: s112 :: s113 :: s114 :: s115 :: s116 :: s117 :: s118 :: s119 :: s120 :: s121 :: s122 :: s123 :: s124 :: s125 :: s126 :: s127 :: s128 :: s129 :: s130 :: s131 :: s132 :: s133 :: s134 :: s135 :: s136 :: s137 :: s138 :: s139 :: s140 :: s141 :: s142 :: s143 :: s144 :: s145 :: s146 :: s147 :: s148 :: s149 :: s150 :: s151 :: s152 :: s153 :: s154 :: s155 :: s156 :: s157 :: s158 :: s159 :: s160 :: s161 :: s162 :: s163 :: s164 :: s165 :: s166 :: s167 :: s168 :: s169 :: s170 :: s171 :: s172 :: s173 :: s174 :: s175 :: s176 :: s177 :: s178 :: s179 :: s180 :: s181 :: s182 :: s183 :: s184 :: s185 :: s186 :: s187 :: s188 :: s189 :: s190 :: s191 :: s192 :: s193 :: s194 :: s195 :: s196 :: s197 :: s198 :: s199 :: s200 :: s201 :: s202 :: s203 :: s204 :: s205 :: s206 :: s207 :: s208 :: s209 :: s210 :: s211 :: s212 :: s213 :: s214 :: s215 :: s216 :: s217 :: s218 :: s219 :: s220 :: s221 :: s222 :: s223 :: s224 :: s225 :: s226 :: s227 :: s228 :: s229 :: s230 :: s231 :: s232 :: s233 :: s234 :: s235 :: s236 :: s237 :: s238 :: s239 :: s240 :: s241 :: s242 :: s243 :: s244 :: s245 :: s246 :: s247 :: s248 :: s249 :: []).toArray, []⟩ w5 := by
  conv => arg 2; arg 1; whnf
  have htr := hR.tr
  have hi' : (i : Int) < (j : Int) := by omega
  have hi0 : (0 : Int) ≤ (i : Int) := by omega
  have hLx := hL.l2.later hBx
  have hst := hR.st
  have hq' : (q : Int) < (len : Int) := by omega
  have hq0 : (0 : Int) ≤ (q : Int) := by omega
  have hgq := hG.room q hql
  have lB0w : B0 ≤ w.heap.size := by have h1 := hL.lb; have h2 := ltCell hL.l2.c3; dsimp only at h2; omega
  go_loopw [7] (fun cc wr => ∃ (T : Int), cc = .int .i64 T ∧ low ≤ T ∧ T ≤ 710000 ∧ (∀ u, low ≤ u → u < T → fullAt j g f P (q : Int) u) ∧ Below w5.heap.size w5 wr) (fun cc _ => (800000 - intOf cc).toNat)
  case atStart => exact ⟨low, rfl, Int.le_refl _, by omega, fun u h1 h2 => by omega, Below.refl _ _⟩
  case round =>
    obtain ⟨T, rfl, hT0, hT1, hTf, hB8⟩ := hrel
    have hB8w := Below.join hBx (Nat.le_refl _) hB8
    have hTh := there_any b (some ⟨ba, oa, none⟩) len cap gap (some ⟨bt, ot, none⟩) j cap' f (some ⟨bp, op, none⟩) nc P last (q : Int) T wr.drew hR hQ ((hLx.later hB8).later (Below.refl wr.heap.size wr).drew) (hT.grow hB8w.drew) (hP.grow hB8w.drew)
    have hthl := thereAll_le (f := f) (s := (q : Int)) (t := T) hn10 j (Nat.le_refl _)
    have c0 := cellLater hB8 hLx.c0
    have gq1 := cellLater hB8w gq
    have hTf' : Hid _ := hTf
    clear hTf
    by_cases hfull : g q ≤ (thereAll f P (q : Int) T j : Int)
    · have hfl : Hid (fullAt j g f P (q : Int) T) := by unfold Hid fullAt; rw [Int.toNat_natCast]; exact hfull
      generalize thereAll f P (q : Int) T j = th at hfull hTh hthl
      go_wp2
      go_region_held3 (fun w' => w'.cell? ⟨b, 0, none⟩ = some (.slice (some ⟨ba, oa, none⟩) len cap) ∧ w'.cell? ⟨ba, oa + q, none⟩ = some (.int .i64 (g q))) (first | go_keep | (go_split_ands; refine ⟨?_, ?_⟩ <;> exact cellLater hB9 (by assumption))) ((go_at_call 39; refine hTh.mono ?_; rintro _ w9 ⟨rfl, hB9⟩))
      have hB9a := Below.join hB8 (Nat.le_refl _) (Below.join (Below.refl wr.heap.size wr).drew (Nat.le_refl _) hB9)
      have y3 := cellLater hB9a hLx.c3
      clear hTh hB9 c0 gq1
      go_wp2
      clear y3
      have hT00 : 0 ≤ T := by omega
      go_loopw [15, 156] (fun uu xx wr => ∃ (x : Nat), x ≤ j ∧ xx = .int .i64 x ∧ uu = .int .i64 (upAll f P (q : Int) T x) ∧ Below w5.heap.size w5 wr) (fun _ xx _ => j - (intOf xx).toNat)
      case atStart => exact ⟨0, Nat.zero_le _, rfl, rfl, hB9a⟩
      case round =>
        obtain ⟨x, hx, rfl, rfl, hBx4⟩ := hrel
        by_cases hxlt : x < j
        · have hx' : (x : Int) < (j : Int) := by omega
          have hx0 : (0 : Int) ≤ (x : Int) := by omega
          obtain ⟨bpx, opx, lpx, lpcx, ecx, _, _, px, hinx, _⟩ := hP x hxlt
          simp only [Option.some.injEq, Addr.mk.injEq] at ecx
          obtain ⟨rfl, rfl, _⟩ := ecx
          obtain ⟨btx, otx, lax, lcx, etx, _, _, tx0, tx1, tx2, tx3, tx4, hlgx, _⟩ := hT x hxlt
          simp only [Option.some.injEq, Addr.mk.injEq] at etx
          obtain ⟨rfl, rfl, _⟩ := etx
          have hBxw := Below.join hBx (Nat.le_refl _) hBx4
          have px1 := cellLater hBxw px
          have d0 := cellLater hBxw tx0
          have d1 := cellLater hBxw tx1
          have d2 := cellLater hBxw tx2
          have d3 := cellLater hBxw tx3
          have d4 := cellLater hBxw tx4
          have c2 := cellLater hBx4 hLx.c2
          have hnx := hQ.le x hxlt
          have hRx := hR.train x hxlt
          have hnlx := hRx.nl
          have hAx := b1 wr (.cells #[.int .i64 (f x).frm, .int .i64 (f x).ready, .int .i64 (f x).due, .int .i64 (f x).weight, .slice lax (f x).nl lcx] 71)
          have hTx := Go.heap_alloc_new wr (.cells #[.int .i64 (f x).frm, .int .i64 (f x).ready, .int .i64 (f x).due, .int .i64 (f x).weight, .slice lax (f x).nl lcx] 71)
          go_wp2
          refine nameW fun Vx hVx => ?_
          rw [← hVx] at hAx hTx
          have ex4 := cell_of_row Vx wr.heap.size 4 _ _ _ hTx
          simp at ex4
          have hBVx := Below.join hBx4 (Nat.le_refl _) hAx
          generalize wr.heap.size = pbx at ex4 ⊢
          clear hVx hTx px1 d0 d1 d2 d3 d4 c2 hAx hBxw
          go_loopw [15, 171] (fun uu mm wr => ∃ (m : Nat), m ≤ (P x).n ∧ mm = .int .i64 m ∧ uu = .int .i64 (upRow f P (q : Int) T x (upAll f P (q : Int) T x) m) ∧ Below Vx.heap.size Vx wr) (fun _ mm _ => (P x).n - (intOf mm).toNat)
          case atStart => exact ⟨0, Nat.zero_le _, rfl, rfl, Below.refl _ _⟩
          case round =>
            obtain ⟨m, hm, rfl, rfl, hBm⟩ := hrel
            by_cases hmlt : m < (P x).n
            · have hm' : (m : Int) < ((P x).n : Int) := by omega
              have hm0 : (0 : Int) ≤ (m : Int) := by omega
              have hml : (m : Int) < ((f x).nl : Int) := by omega
              have hBmw := Below.join hBx (Nat.le_refl _) (Below.join hBVx (Nat.le_refl _) hBm)
              obtain ⟨bl, ol, rfl, _, _, g0, g1, g2⟩ := hlgx m (by omega)
              obtain ⟨bi, oi, rfl, _, _, q0⟩ := hinx m hmlt
              obtain ⟨s0, s1⟩ := hQ.at0 x hxlt m hmlt
              obtain ⟨r0, r1, r2, r3⟩ := hRx.leg m (by omega)
              replace g0 := cellLater hBmw g0
              replace g1 := cellLater hBmw g1
              replace q0 := cellLater hBmw q0
              have ex4' := cellLater hBm ex4
              have hl6 := hQ.l1
              have hset : ∀ e, ((f x).leg m).to = (q : Int) → leaveO f P x m = some e → T ≤ e → (upRow f P (q : Int) T x (upAll f P (q : Int) T x) m < 0 ∨ e < upRow f P (q : Int) T x (upAll f P (q : Int) T x) m) → upRow f P (q : Int) T x (upAll f P (q : Int) T x) (m + 1) = e := fun e h1 h2 h3 h4 => by simp only [upRow]; rw [if_pos h1, h2]; simp only [if_pos (And.intro h3 h4)]
              have hkeep : ∀ e, ((f x).leg m).to = (q : Int) → leaveO f P x m = some e → ¬ (T ≤ e ∧ (upRow f P (q : Int) T x (upAll f P (q : Int) T x) m < 0 ∨ e < upRow f P (q : Int) T x (upAll f P (q : Int) T x) m)) → upRow f P (q : Int) T x (upAll f P (q : Int) T x) (m + 1) = upRow f P (q : Int) T x (upAll f P (q : Int) T x) m := fun e h1 h2 h3 => by simp only [upRow]; rw [if_pos h1, h2]; simp only [if_neg h3]
              have hnone : ((f x).leg m).to = (q : Int) → leaveO f P x m = none → upRow f P (q : Int) T x (upAll f P (q : Int) T x) (m + 1) = upRow f P (q : Int) T x (upAll f P (q : Int) T x) m := fun h1 h2 => by simp only [upRow]; rw [if_pos h1, h2]
              have hoth : ((f x).leg m).to ≠ (q : Int) → upRow f P (q : Int) T x (upAll f P (q : Int) T x) (m + 1) = upRow f P (q : Int) T x (upAll f P (q : Int) T x) m := fun h1 => by simp only [upRow]; rw [if_neg h1]
              generalize upRow f P (q : Int) T x (upAll f P (q : Int) T x) m = U at hset hkeep hnone hoth ⊢
              by_cases hto : ((f x).leg m).to = (q : Int)
              · have hto' : (((f x).leg m).to != (q : Int)) = false := by simpa using hto
                by_cases hm1 : m + 1 < (P x).n
                · have hm1' : (m : Int) + 1 < ((P x).n : Int) := by omega
                  have hn1 : (0 : Int) ≤ (m : Int) + 1 := by omega
                  have hn2 : ((m : Int) + 1).toNat = m + 1 := by omega
                  have hw1 : IntKind.i64.wrap ((m : Int) + 1) = (m : Int) + 1 := by rw [IntKind.wrap_i64]; omega
                  obtain ⟨bi', oi', ei, _, _, q1⟩ := hinx (m + 1) hm1
                  simp only [Option.some.injEq, Addr.mk.injEq] at ei
                  obtain ⟨rfl, rfl, _⟩ := ei
                  replace q1 := cellLater hBmw q1
                  have hlv : leaveO f P x m = some ((P x).s (m + 1)) := by unfold leaveO; rw [if_pos hm1]
                  by_cases h1 : T ≤ (P x).s (m + 1)
                  · by_cases h2 : U < 0
                    · have ev : Hid (upRow f P (q : Int) T x (upAll f P (q : Int) T x) (m + 1) = (P x).s (m + 1)) := hset _ hto hlv h1 (Or.inl h2)
                      clear hset hkeep hnone hoth hto hlv
                      go_wp2
                      go_roundw
                      case rel => first | exact ⟨m + 1, by omega, by go_num, by rw [ev.out], hBm⟩ | ((repeat apply Exists.intro); exact ⟨⟨m + 1, by omega, by go_num, by rw [ev.out], hBm⟩, rfl⟩)
                      case measure => simp [intOf]; omega
                    · by_cases h3 : (P x).s (m + 1) < U
                      · have ev : Hid (upRow f P (q : Int) T x (upAll f P (q : Int) T x) (m + 1) = (P x).s (m + 1)) := hset _ hto hlv h1 (Or.inr h3)
                        clear hset hkeep hnone hoth hto hlv
                        go_wp2
                        go_roundw
                        case rel => first | exact ⟨m + 1, by omega, by go_num, by rw [ev.out], hBm⟩ | ((repeat apply Exists.intro); exact ⟨⟨m + 1, by omega, by go_num, by rw [ev.out], hBm⟩, rfl⟩)
                        case measure => simp [intOf]; omega
                      · have ev : Hid (upRow f P (q : Int) T x (upAll f P (q : Int) T x) (m + 1) = U) := hkeep _ hto hlv (fun h => by rcases h.2 with h' | h'; (· exact h2 h'); (· exact h3 h'))
                        clear hset hkeep hnone hoth hto hlv
                        go_wp2
                        go_roundw
                        case rel => first | exact ⟨m + 1, by omega, by go_num, by rw [ev.out], hBm⟩ | ((repeat apply Exists.intro); exact ⟨⟨m + 1, by omega, by go_num, by rw [ev.out], hBm⟩, rfl⟩)
                        case measure => simp [intOf]; omega
                  · have ev : Hid (upRow f P (q : Int) T x (upAll f P (q : Int) T x) (m + 1) = U) := hkeep _ hto hlv (fun h => h1 h.1)
                    clear hset hkeep hnone hoth hto hlv
                    go_wp2
                    go_roundw
                    case rel => first | exact ⟨m + 1, by omega, by go_num, by rw [ev.out], hBm⟩ | ((repeat apply Exists.intro); exact ⟨⟨m + 1, by omega, by go_num, by rw [ev.out], hBm⟩, rfl⟩)
                    case measure => simp [intOf]; omega
                · have hm1' : ¬ ((m : Int) + 1 < ((P x).n : Int)) := by omega
                  by_cases hmn : m + 1 < (f x).nl
                  · have hme : ((m : Int) + 1 == ((f x).nl : Int)) = false := by simp; omega
                    have hlv : leaveO f P x m = none := by unfold leaveO; rw [if_neg hm1, if_pos hmn]
                    have hneg : ¬ (T ≤ -1) := by omega
                    have ev : Hid (upRow f P (q : Int) T x (upAll f P (q : Int) T x) (m + 1) = U) := hnone hto hlv
                    clear hset hkeep hnone hoth hto hlv
                    go_wp2
                    go_roundw
                    case rel => first | exact ⟨m + 1, by omega, by go_num, by rw [ev.out], hBm⟩ | ((repeat apply Exists.intro); exact ⟨⟨m + 1, by omega, by go_num, by rw [ev.out], hBm⟩, rfl⟩)
                    case measure => simp [intOf]; omega
                  · have hme : ((m : Int) + 1 == ((f x).nl : Int)) = true := by simp; omega
                    have hlv : leaveO f P x m = some ((P x).s m + ((f x).leg m).run) := by unfold leaveO; rw [if_neg hm1, if_neg hmn]
                    have hws : IntKind.i64.wrap ((P x).s m + ((f x).leg m).run) = (P x).s m + ((f x).leg m).run := by rw [IntKind.wrap_i64]; omega
                    by_cases h1 : T ≤ (P x).s m + ((f x).leg m).run
                    · by_cases h2 : U < 0
                      · have ev : Hid (upRow f P (q : Int) T x (upAll f P (q : Int) T x) (m + 1) = (P x).s m + ((f x).leg m).run) := hset _ hto hlv h1 (Or.inl h2)
                        clear hset hkeep hnone hoth hto hlv
                        go_wp2
                        go_quiet (fail)
                        go_wp2
                        go_roundw
                        case rel => first | exact ⟨m + 1, by omega, by go_num, by rw [ev.out], Below.join hBm (Nat.le_refl _) (below_drewN (Below.refl _ _) _)⟩ | ((repeat apply Exists.intro); exact ⟨⟨m + 1, by omega, by go_num, by rw [ev.out], Below.join hBm (Nat.le_refl _) (below_drewN (Below.refl _ _) _)⟩, rfl⟩)
                        case measure => simp [intOf]; omega
                      · by_cases h3 : (P x).s m + ((f x).leg m).run < U
                        · have ev : Hid (upRow f P (q : Int) T x (upAll f P (q : Int) T x) (m + 1) = (P x).s m + ((f x).leg m).run) := hset _ hto hlv h1 (Or.inr h3)
                          clear hset hkeep hnone hoth hto hlv
                          go_wp2
                          go_quiet (fail)
                          go_wp2
                          go_roundw
                          case rel => first | exact ⟨m + 1, by omega, by go_num, by rw [ev.out], Below.join hBm (Nat.le_refl _) (below_drewN (Below.refl _ _) _)⟩ | ((repeat apply Exists.intro); exact ⟨⟨m + 1, by omega, by go_num, by rw [ev.out], Below.join hBm (Nat.le_refl _) (below_drewN (Below.refl _ _) _)⟩, rfl⟩)
                          case measure => simp [intOf]; omega
                        · have ev : Hid (upRow f P (q : Int) T x (upAll f P (q : Int) T x) (m + 1) = U) := hkeep _ hto hlv (fun h => by rcases h.2 with h' | h'; (· exact h2 h'); (· exact h3 h'))
                          clear hset hkeep hnone hoth hto hlv
                          go_wp2
                          go_quiet (fail)
                          go_wp2
                          go_roundw
                          case rel => first | exact ⟨m + 1, by omega, by go_num, by rw [ev.out], Below.join hBm (Nat.le_refl _) (below_drewN (Below.refl _ _) _)⟩ | ((repeat apply Exists.intro); exact ⟨⟨m + 1, by omega, by go_num, by rw [ev.out], Below.join hBm (Nat.le_refl _) (below_drewN (Below.refl _ _) _)⟩, rfl⟩)
                          case measure => simp [intOf]; omega
                    · have ev : Hid (upRow f P (q : Int) T x (upAll f P (q : Int) T x) (m + 1) = U) := hkeep _ hto hlv (fun h => h1 h.1)
                      clear hset hkeep hnone hoth hto hlv
                      go_wp2
                      go_quiet (fail)
                      go_wp2
                      go_roundw
                      case rel => first | exact ⟨m + 1, by omega, by go_num, by rw [ev.out], Below.join hBm (Nat.le_refl _) (below_drewN (Below.refl _ _) _)⟩ | ((repeat apply Exists.intro); exact ⟨⟨m + 1, by omega, by go_num, by rw [ev.out], Below.join hBm (Nat.le_refl _) (below_drewN (Below.refl _ _) _)⟩, rfl⟩)
                      case measure => simp [intOf]; omega
              · have hto' : (((f x).leg m).to != (q : Int)) = true := by simpa using hto
                have ev : Hid (upRow f P (q : Int) T x (upAll f P (q : Int) T x) (m + 1) = U) := hoth hto
                clear hset hkeep hnone hoth
                go_wp2
                go_roundw
                case rel => first | exact ⟨m + 1, by omega, by go_num, by rw [ev.out], hBm⟩ | ((repeat apply Exists.intro); exact ⟨⟨m + 1, by omega, by go_num, by rw [ev.out], hBm⟩, rfl⟩)
                case measure => simp [intOf]; omega
            · obtain rfl : m = (P x).n := by omega
              go_wp2
              go_roundw
              case rel => exact ⟨x + 1, by omega, by go_num, by simp only [upAll], Below.join hBVx (Nat.le_refl _) hBm⟩
              case measure => simp [intOf]; omega
        · obtain rfl : x = j := by omega
          have hT' : Hid _ := hTf'
          by_cases hu : upAll f P (q : Int) T x < 0
          · have hall : Hid (∀ t, lowOf x f P gap last i ≤ t → fullAt x g f P (stOf f P i) t) := by
              unfold Hid
              rw [hlow.out, hqs.out]
              intro t ht
              rcases Int.lt_or_le t T with h1 | h1
              · exact hTf'.out t ht h1
              · exact full_ever hT00 hu hfl.out t h1
            go_wp2
            go_ret
            exact ⟨Or.inl ⟨hall.out, rfl, Below.join hBx (Nat.le_refl _) hBx4⟩, trivial⟩
          · have hu0 : 0 ≤ upAll f P (q : Int) T x := by omega
            have hub : upAll f P (q : Int) T x ≤ 700000 := by
              obtain ⟨⟨y, hy, k, hky, _, hlv2⟩, _⟩ := (upAll_is hT00 x).some hu0
              have hny := hQ.le y hy
              unfold leaveO at hlv2
              split at hlv2
              · have := hQ.at0 y hy (k + 1) (by omega); have := hQ.l1; simp only [Option.some.injEq] at hlv2; omega
              · split at hlv2
                · cases hlv2
                · have h1 := hQ.at0 y hy k hky
                  obtain ⟨r0, r1, _⟩ := (hR.train y hy).leg k (by omega)
                  have := hQ.l1
                  simp only [Option.some.injEq] at hlv2; omega
            have hnew : Hid (∀ u, low ≤ u → u < upAll f P (q : Int) T x + 1 → fullAt x g f P (q : Int) u) := by
              intro u h1 h2
              rcases Int.lt_or_le u T with h3 | h3
              · exact hTf'.out u h1 h3
              · exact full_until hT00 hu0 hfl.out u h3 (by omega)
            have hTu := ((upAll_is (f := f) (P := P) (s := (q : Int)) hT00 x).some hu0).2.1
            generalize upAll f P (q : Int) T x = U at hu hu0 hub hnew hTu ⊢
            go_wp2
            go_roundw
            case rel => exact ⟨U + 1, by go_num, by omega, by omega, hnew.out, hBx4⟩
            case measure => simp [intOf]; omega
    · have hfirst : Hid (IsFirst j g f P (stOf f P i) (lowOf j f P gap last i) T) := by
        unfold Hid
        rw [hlow.out, hqs.out]
        exact ⟨hT0, by unfold fullAt; rw [Int.toNat_natCast]; exact hfull, hTf'.out⟩
      generalize thereAll f P (q : Int) T j = th at hfull hTh hthl
      go_wp2
      go_region_held3 (fun w' => w'.cell? ⟨b, 0, none⟩ = some (.slice (some ⟨ba, oa, none⟩) len cap) ∧ w'.cell? ⟨ba, oa + q, none⟩ = some (.int .i64 (g q))) (first | go_keep | (go_split_ands; refine ⟨?_, ?_⟩ <;> exact cellLater hB9 (by assumption))) ((go_at_call 39; refine hTh.mono ?_; rintro _ w9 ⟨rfl, hB9⟩))
      have hB9a := Below.join hB8 (Nat.le_refl _) (Below.join (Below.refl wr.heap.size wr).drew (Nat.le_refl _) hB9)
      have hB9w := Below.join hBx (Nat.le_refl _) hB9a
      clear hTh hB9 c0 gq1
      go_wp2
      exact next_e B0 b gR _ len cap gap _ j cap' _ nc v P last i T w9 (NextPost B0 b gR (some ⟨ba, oa, none⟩) len cap g gap (some ⟨bt, ot, none⟩) j cap' f (some ⟨bp, op, none⟩) nc P last i w) htr hi hn10 (hL.later hB9w) (fun v' W hb hlp => Or.inr ⟨T, v', hfirst.out, rfl, (hB9w.mono lB0w).trans hb, hlp⟩)
end Go.Proofs.YtnjaegeapcijpaaDoor

namespace Go.Proofs.YtnjaegeapcijpaaDoor
open Go.RowKit

set_option maxRecDepth 20000 in
set_option maxHeartbeats 16000000 in
theorem next_main0 (B0 b gR : Nat) (a : Option Addr) (len cap : Nat) (g : Nat → Int) (gap : Int) (a' : Option Addr) (np cap' : Nat) (f : Nat → TrainD) (c : Option Addr) (nc : Nat) (v : Nat → Value) (P : Nat → RowD) (last : Int) (i : Nat) (w : World) (hR : RightL len np f) (hG : RightG len g gap np f) (hQ : PartP np f P last) (hi : i < np) (hk : (P i).n < (f i).nl) (hl5 : last ≤ 500000)
    (hL : LP B0 w b gR a len cap gap a' np cap' c nc v P last) (hI : IsInts 0 w.heap.size w a len g) (hT : IsTrains 0 w.heap.size w a' np f) :
    Calls Tryd.prog 19 #[.pointer (some ⟨b, 0, none⟩), .int .i64 i] w fun e w' => NextPost B0 b gR a len cap g gap a' np cap' f c nc P last i w e w' ∧ True := by
  have htr := hR.tr
  have lB0w : B0 ≤ w.heap.size := by have h1 := hL.lb; have h2 := ltCell hL.l2.c3; dsimp only at h2; omega
  have hRi := hR.train i hi
  have hnl := hRi.nl
  have hn10 : ∀ j, j < np → (P j).n ≤ 10 := fun j hj => Nat.le_trans (hQ.le j hj) (hR.train j hj).nl
  have hP := hL.rows hn10
  have hi' : (i : Int) < (np : Int) := by omega
  have hi0 : (0 : Int) ≤ (i : Int) := by omega
  have hki : ((P i).n : Int) < ((f i).nl : Int) := by omega
  have hkd : (((P i).n : Int) == ((f i).nl : Int)) = false := by simp; omega
  have x0 := hL.l2.c0
  have x1 := hL.l2.c1
  have x2 := hL.l2.c2
  have x3 := hL.l2.c3
  have x4 := hL.l2.c4
  obtain ⟨bt, ot, la, lc, rfl, _, hbt, t0, t1, t2, t3, t4, hlg, _⟩ := hT i hi
  obtain ⟨bp, op, lp, lpc, ec, _, hbp, p0, hin, _⟩ := hP i hi
  have hA1 := b1 w (.cells #[.int .i64 (f i).frm, .int .i64 (f i).ready, .int .i64 (f i).due, .int .i64 (f i).weight, .slice la (f i).nl lc] 71)
  have hTb := Go.heap_alloc_new w (.cells #[.int .i64 (f i).frm, .int .i64 (f i).ready, .int .i64 (f i).due, .int .i64 (f i).weight, .slice la (f i).nl lc] 71)
  go_enter Tryd.func19, Tryd.ntmps19
  subst ec
  have lb := ltCell x3
  dsimp only at lb
  go_wp2
  refine nameW fun V hV => ?_
  rw [← hV] at hA1 hTb
  have e0 := cell_of_row V w.heap.size 0 _ _ _ hTb
  have e1 := cell_of_row V w.heap.size 1 _ _ _ hTb
  have e2 := cell_of_row V w.heap.size 2 _ _ _ hTb
  have e3 := cell_of_row V w.heap.size 3 _ _ _ hTb
  have e4 := cell_of_row V w.heap.size 4 _ _ _ hTb
  simp at e0 e1 e2 e3 e4
  replace x0 := cellLater hA1 x0
  replace x1 := cellLater hA1 x1
  replace x2 := cellLater hA1 x2
  replace x3 := cellLater hA1 x3
  replace x4 := cellLater hA1 x4
  have hRd := l2readyP_any a len cap gap (some ⟨bt, ot, none⟩) np cap' f (some ⟨bp, op, none⟩) nc P last i V.drew hR hQ hi hk (hT.grow hA1.drew) (hP.grow hA1.drew)
  clear hV hTb t0 t1 t2 t3 t4 p0
  go_region_held3 (fun w' => w'.cell? ⟨b, 0, none⟩ = some (.slice a len cap) ∧ w'.cell? ⟨b, 1, none⟩ = some (.int .i64 gap) ∧ w'.cell? ⟨b, 2, none⟩ = some (.slice (some ⟨bt, ot, none⟩) np cap') ∧ w'.cell? ⟨b, 3, none⟩ = some (.slice (some ⟨bp, op, none⟩) np nc)) (first | go_keep | (go_split_ands; refine ⟨?_, ?_, ?_, ?_⟩ <;> exact cellLater hB3 (by assumption))) ((go_at_call 37; refine hRd.mono ?_; rintro _ w3 ⟨rfl, hB3⟩))
  have hBa := Below.join (Below.refl V.heap.size V).drew (Nat.le_refl _) hB3
  replace e0 := cellLater hBa e0
  replace e1 := cellLater hBa e1
  replace e2 := cellLater hBa e2
  replace e3 := cellLater hBa e3
  replace e4 := cellLater hBa e4
  replace x4 := cellLater hBa x4
  have hBw := Below.join hA1 (Nat.le_refl _) hBa
  have hTk := l2track_any (f i) (P i).n la lc w3 hk hnl (hlg.grow hBw)
  have hmz : ∀ x, maxZ x last = if x < last then last else x := fun x => rfl
  obtain ⟨rd, hrd⟩ : ∃ rd, readyOf f P i (P i).n = rd := ⟨_, rfl⟩
  have hrd' : Hid _ := hrd
  rw [hrd]
  obtain ⟨lw, hlw⟩ : ∃ lw, maxZ rd last = lw := ⟨_, rfl⟩
  have hlw' : Hid _ := hlw
  clear hrd hlw hRd hB3 x0 x1 x2 x3 hmz
  have hl0 := hQ.l0
  have hgap0 := hG.g0
  have hgap1 := hG.g1
  have hbd : ∀ j, j < np → ∀ m, m < (P j).n → (P j).s m + ((f j).leg m).run + gap ≤ 700000 := fun j hj m hm => by
    have h1 := hQ.at0 j hj m hm
    obtain ⟨r0, r1, _⟩ := (hR.train j hj).leg m (by have := hQ.le j hj; omega)
    omega
  have hrdb : 0 ≤ rd ∧ rd ≤ last + 200000 := by
    rw [← hrd'.out]
    have hr0 := hRi.r0
    have hr1 := hRi.r1
    cases hn : (P i).n with
    | zero => obtain ⟨_, _, l2, l3⟩ := hRi.leg 0 (by omega); simp only [readyOf]; omega
    | succ k =>
      have h1 := hQ.at0 i hi k (by omega)
      obtain ⟨r0, r1, _, _⟩ := hRi.leg k (by omega)
      obtain ⟨_, _, l2, l3⟩ := hRi.leg (k + 1) (by omega)
      simp only [readyOf]; omega
  have hlwb : 0 ≤ lw ∧ lw ≤ 700000 := by rw [← hlw'.out]; unfold maxZ; split <;> omega
  have hta := fun j hj => trackAll_bd (f := f) (P := P) (gap := gap) (i := i) (k := (P i).n) hlwb.2 hbd j hj
  have htr' := fun j (hj : j < np) m hm => trackRow_bd (f := f) (P := P) (gap := gap) (i := i) (k := (P i).n) (j := j) (hta j (Nat.le_of_lt hj)).2 (hbd j hj) m hm
  go_upto_if 59 with fail
  go_cut [7] (fun v wc => v = .int .i64 lw ∧ wc = w3)
  case first =>
    by_cases hrl : rd < last
    · have hlv : Hid (lw = last) := by unfold Hid; rw [← hlw'.out]; exact if_pos hrl
      go_wp2_with fail
      go_meet
      case rel => exact ⟨by rw [hlv.out], rfl⟩
    · have hlv : Hid (lw = rd) := by unfold Hid; rw [← hlw'.out]; exact if_neg hrl
      go_wp2_with fail
      go_meet
      case rel => exact ⟨by rw [hlv.out], rfl⟩
  case rest =>
    obtain ⟨rfl, hwc⟩ := hcut
    subst hwc
    have hlv : Hid (lw = lw) := by unfold Hid; rfl
    go_wp2_with (go_at_call 38; refine hTk.mono ?_; rintro _ w4 ⟨rfl, hB4⟩; have x3' := cellLater hB4 (cellLater hBw hL.l2.c3))
    have hBx := Below.join hBw (Nat.le_refl _) hB4
    replace e4 := cellLater hB4 e4
    have hLx := hL.l2.later hBx
    have hlvz : Hid (lw = trackAll f P gap i (P i).n lw 0) := by unfold Hid; rfl
    clear hTk e0 e1 e2 e3 hB4 x3' x4 hBa
    go_loopw [7, 73] (fun cc jj wr => ∃ (j : Nat), j ≤ np ∧ jj = .int .i64 j ∧ cc = .int .i64 (trackAll f P gap i (P i).n lw j) ∧ Below w4.heap.size w4 wr) (fun _ jj _ => np - (intOf jj).toNat)
    case atStart => exact ⟨0, Nat.zero_le _, rfl, by rw [← hlvz.out], Below.refl _ _⟩
    case round =>
      obtain ⟨j, hj, rfl, rfl, hB5⟩ := hrel
      by_cases hjlt : j < np
      · have hj' : (j : Int) < (np : Int) := by omega
        have hj0 : (0 : Int) ≤ (j : Int) := by omega
        obtain ⟨bpj, opj, lpj, lpcj, ecj, _, _, pj, hinj, _⟩ := hP j hjlt
        simp only [Option.some.injEq, Addr.mk.injEq] at ecj
        obtain ⟨rfl, rfl, _⟩ := ecj
        obtain ⟨btj, otj, laj, lcj, etj, _, _, tj0, tj1, tj2, tj3, tj4, hlgj, _⟩ := hT j hjlt
        simp only [Option.some.injEq, Addr.mk.injEq] at etj
        obtain ⟨rfl, rfl, _⟩ := etj
        have pj1 := cellLater (Below.join hBx (Nat.le_refl _) hB5) pj
        have hnj := hQ.le j hjlt
        have hRj := hR.train j hjlt
        have hnlj := hRj.nl
        have htrj := htr' j hjlt
        have hbdj := hbd j hjlt
        go_wp2
        clear pj1
        go_loopw [7, 80] (fun cc mm wr2 => ∃ (m : Nat), m ≤ (P j).n ∧ mm = .int .i64 m ∧ cc = .int .i64 (trackRow f P gap i (P i).n j (trackAll f P gap i (P i).n lw j) m) ∧ Below w4.heap.size w4 wr2) (fun _ mm _ => (P j).n - (intOf mm).toNat)
        case atStart => exact ⟨0, Nat.zero_le _, rfl, rfl, hB5⟩
        case round =>
          obtain ⟨m, hm, rfl, rfl, hB6⟩ := hrel
          by_cases hmlt : m < (P j).n
          · have hm' : (m : Int) < ((P j).n : Int) := by omega
            have hm0 : (0 : Int) ≤ (m : Int) := by omega
            have hml : (m : Int) < ((f j).nl : Int) := by omega
            have hBm := Below.join hBx (Nat.le_refl _) hB6
            obtain ⟨bl, ol, rfl, _, _, g0, g1, g2⟩ := hlgj m (by omega)
            obtain ⟨bi, oi, rfl, _, _, q0⟩ := hinj m hmlt
            obtain ⟨s0, s1⟩ := hQ.at0 j hjlt m hmlt
            obtain ⟨r0, r1, r2, r3⟩ := hRj.leg m (by omega)
            have htm := htrj m hm
            have hfb := hbdj m hmlt
            replace g1 := cellLater hBm g1
            replace q0 := cellLater hBm q0
            have d0 := cellLater hBm tj0
            have d1 := cellLater hBm tj1
            have d2 := cellLater hBm tj2
            have d3 := cellLater hBm tj3
            have d4 := cellLater hBm tj4
            have c1 := cellLater hB6 hLx.c1
            have c2 := cellLater hB6 hLx.c2
            have hw1 : IntKind.i64.wrap ((P j).s m + ((f j).leg m).run) = (P j).s m + ((f j).leg m).run := by rw [IntKind.wrap_i64]; omega
            have hw2 : IntKind.i64.wrap ((P j).s m + ((f j).leg m).run + gap) = (P j).s m + ((f j).leg m).run + gap := by rw [IntKind.wrap_i64]; omega
            have hstep : trackRow f P gap i (P i).n j (trackAll f P gap i (P i).n lw j) (m + 1) = if j ≠ i ∧ trackOf (f j) m = trackOf (f i) (P i).n ∧ trackRow f P gap i (P i).n j (trackAll f P gap i (P i).n lw j) m < (P j).s m + ((f j).leg m).run + gap then (P j).s m + ((f j).leg m).run + gap else trackRow f P gap i (P i).n j (trackAll f P gap i (P i).n lw j) m := rfl
            have hst : Hid _ := hstep
            clear hstep
            generalize trackRow f P gap i (P i).n j (trackAll f P gap i (P i).n lw j) m = N at hst htm ⊢
            have hTj := fun V (hV : Below wr.heap.size wr V) => l2track_any (f j) m (some ⟨bl, ol, none⟩) lcj V (by omega) hnlj (hlgj.grow (Below.join hBm (Nat.le_refl _) hV))
            have hTj' : Hid _ := hTj
            have hDr : ∀ n, Below wr.heap.size wr (wr.drewN n) := fun n => below_drewN (Below.refl _ _) n
            clear hTj
            by_cases hji : j = i
            · have hne : ((j : Int) != (i : Int)) = false := by simp; omega
              have ev : Hid (trackRow f P gap i (P i).n j (trackAll f P gap i (P i).n lw j) (m + 1) = N) := by unfold Hid; rw [hst.out, if_neg (fun h => h.1 hji)]
              have hji' : Hid _ := hji
              clear hji
              go_wp2
              go_quiet (fail)
              go_wp2
              go_roundw
              case rel => first | exact ⟨m + 1, by omega, by go_num, by rw [ev.out], Below.join hB6 (Nat.le_refl _) (hDr _)⟩ | ((repeat apply Exists.intro); exact ⟨⟨m + 1, by omega, by go_num, by rw [ev.out], Below.join hB6 (Nat.le_refl _) (hDr _)⟩, rfl⟩)
              case measure => simp [intOf]; omega
            · have hne : ((j : Int) != (i : Int)) = true := by simp; omega
              by_cases htk : trackOf (f j) m = trackOf (f i) (P i).n
              · have hteq : (trackOf (f j) m == trackOf (f i) (P i).n) = true := by simpa using htk
                by_cases hfr : N < (P j).s m + ((f j).leg m).run + gap
                · have ev : Hid (trackRow f P gap i (P i).n j (trackAll f P gap i (P i).n lw j) (m + 1) = (P j).s m + ((f j).leg m).run + gap) := by unfold Hid; rw [hst.out, if_pos ⟨hji, htk, hfr⟩]
                  have htk' : Hid _ := htk
                  clear htk
                  go_wp2
                  go_quiet (fail)
                  go_wp2_with (go_at_call 38; refine (hTj'.out _ (hDr _)).mono ?_; rintro _ w7 ⟨rfl, hB7⟩)
                  go_roundw
                  case rel => first | exact ⟨m + 1, by omega, by go_num, by rw [ev.out], Below.join (Below.join hB6 (Nat.le_refl _) (hDr _)) (Nat.le_refl _) hB7⟩ | ((repeat apply Exists.intro); exact ⟨⟨m + 1, by omega, by go_num, by rw [ev.out], Below.join (Below.join hB6 (Nat.le_refl _) (hDr _)) (Nat.le_refl _) hB7⟩, rfl⟩)
                  case measure => simp [intOf]; omega
                · have ev : Hid (trackRow f P gap i (P i).n j (trackAll f P gap i (P i).n lw j) (m + 1) = N) := by unfold Hid; rw [hst.out, if_neg (fun h => hfr h.2.2)]
                  have htk' : Hid _ := htk
                  clear htk
                  go_wp2
                  go_quiet (fail)
                  go_wp2_with (go_at_call 38; refine (hTj'.out _ (hDr _)).mono ?_; rintro _ w7 ⟨rfl, hB7⟩)
                  go_roundw
                  case rel => first | exact ⟨m + 1, by omega, by go_num, by rw [ev.out], Below.join (Below.join hB6 (Nat.le_refl _) (hDr _)) (Nat.le_refl _) hB7⟩ | ((repeat apply Exists.intro); exact ⟨⟨m + 1, by omega, by go_num, by rw [ev.out], Below.join (Below.join hB6 (Nat.le_refl _) (hDr _)) (Nat.le_refl _) hB7⟩, rfl⟩)
                  case measure => simp [intOf]; omega
              · have hteq : (trackOf (f j) m == trackOf (f i) (P i).n) = false := by simpa using htk
                have ev : Hid (trackRow f P gap i (P i).n j (trackAll f P gap i (P i).n lw j) (m + 1) = N) := by unfold Hid; rw [hst.out, if_neg (fun h => htk h.2.1)]
                go_wp2
                go_quiet (fail)
                go_wp2_with (go_at_call 38; refine (hTj'.out _ (hDr _)).mono ?_; rintro _ w7 ⟨rfl, hB7⟩)
                go_roundw
                case rel => first | exact ⟨m + 1, by omega, by go_num, by rw [ev.out], Below.join (Below.join hB6 (Nat.le_refl _) (hDr _)) (Nat.le_refl _) hB7⟩ | ((repeat apply Exists.intro); exact ⟨⟨m + 1, by omega, by go_num, by rw [ev.out], Below.join (Below.join hB6 (Nat.le_refl _) (hDr _)) (Nat.le_refl _) hB7⟩, rfl⟩)
                case measure => simp [intOf]; omega
          · obtain rfl : m = (P j).n := by omega
            go_wp2
            go_roundw
            case rel => first | exact ⟨j + 1, by omega, by go_num, by simp only [trackAll], hB6⟩ | ((repeat apply Exists.intro); exact ⟨⟨j + 1, by omega, by go_num, by simp only [trackAll], hB6⟩, rfl⟩)
            case measure => simp [intOf]; omega
      · obtain rfl : j = np := by omega
        have hBe := Below.join hBx (Nat.le_refl _) hB5
        obtain ⟨bk, ok, rfl, _, _, gk, _, _⟩ := hlg (P i).n hk
        replace gk := cellLater hBe gk
        have e4' := cellLater hB5 e4
        obtain ⟨to0, to1⟩ := hR.to i hi (P i).n hk
        obtain ⟨q, hq⟩ : ∃ q : Nat, ((f i).leg (P i).n).to = (q : Int) := ⟨((f i).leg (P i).n).to.toNat, by omega⟩
        have hqs : Hid (stOf f P i = (q : Int)) := hq
        have hlow : Hid (lowOf j f P gap last i = trackAll f P gap i (P i).n lw j) := by unfold Hid lowOf; rw [hrd'.out, hlw'.out]
        have hlob := hta j (Nat.le_refl _)
        generalize trackAll f P gap i (P i).n lw j = low at hlow hlob ⊢
        rw [hq] at gk to1
        clear hq to0
        have hql : q < len := by omega
        have hq' : (q : Int) < (len : Int) := by omega
        have hq0 : (0 : Int) ≤ (q : Int) := by omega
        obtain ⟨ba, oa, rfl, _, _, gq⟩ := hI q hql
        have hgq := hG.room q hql
        go_wp2
        rename_i Kz az
        exact next_l B0 b gR ba oa bt ot bp op len cap g gap j cap' f nc v P last i q low w wr Kz (fun x W h => az x W h) hR hG hQ hi hn10 hL hT hP (Below.join hBx (Nat.le_refl _) hB5) hql gq hqs hlow (by omega) (by omega)

theorem next_main (B0 b gR : Nat) (a : Option Addr) (len cap : Nat) (g : Nat → Int) (gap : Int) (a' : Option Addr) (np cap' : Nat) (f : Nat → TrainD) (c : Option Addr) (nc : Nat) (v : Nat → Value) (P : Nat → RowD) (last : Int) (i : Nat) (w : World) (hR : RightL len np f) (hG : RightG len g gap np f) (hQ : PartP np f P last) (hi : i < np) (hk : (P i).n < (f i).nl) (hl5 : last ≤ 500000)
    (hL : LP B0 w b gR a len cap gap a' np cap' c nc v P last) (hI : IsInts 0 w.heap.size w a len g) (hT : IsTrains 0 w.heap.size w a' np f) :
    Calls Tryd.prog 19 #[.pointer (some ⟨b, 0, none⟩), .int .i64 i] w fun e w' =>
      ((∀ t, lowOf np f P gap last i ≤ t → fullAt np g f P (stOf f P i) t) ∧ e = .returned (.int .i64 3) ∧ Below w.heap.size w w') ∨
      (∃ t v', IsFirst np g f P (stOf f P i) (lowOf np f P gap last i) t ∧ e = .returned (.int .i64 0) ∧ Below B0 w w' ∧ LP B0 w' b gR a len cap gap a' np cap' c nc v' (moreP P i t) t) :=
  (next_main0 B0 b gR a len cap g gap a' np cap' f c nc v P last i w hR hG hQ hi hk hl5 hL hI hT).mono (fun _ _ h => h.1)
end Go.Proofs.YtnjaegeapcijpaaDoor

namespace Go.Proofs.YtnjaegeapcijpaaDoor
open Go.RowKit

set_option maxRecDepth 20000 in
set_option maxHeartbeats 4000000 in
theorem next_two (b : Nat) (a : Option Addr) (len cap : Nat) (gap : Int) (a' : Option Addr) (np cap' : Nat) (f : Nat → TrainD) (c : Option Addr) (nc : Nat) (P : Nat → RowD) (last : Int) (i : Nat) (w : World) (hR : RightL len np f) (hi : i < np) (hk : (P i).n = (f i).nl)
    (hL : L2 w b a len cap gap a' np cap' c nc last) (hT : IsTrains 0 w.heap.size w a' np f) (hP : IsRows 0 w.heap.size w c np P) :
    Calls Tryd.prog 19 #[.pointer (some ⟨b, 0, none⟩), .int .i64 i] w fun e w' => e = .returned (.int .i64 2) ∧ Below w.heap.size w w' := by
  have htr := hR.tr
  have hnl := (hR.train i hi).nl
  have hi' : (i : Int) < (np : Int) := by omega
  have hi0 : (0 : Int) ≤ (i : Int) := by omega
  have hkd : (((P i).n : Int) == ((f i).nl : Int)) = true := by simp; omega
  have x2 := hL.c2
  have x3 := hL.c3
  have lb := ltCell x3
  dsimp only at lb
  obtain ⟨bt, ot, la, lc, rfl, _, hbt, t0, t1, t2, t3, t4, hlg, _⟩ := hT i hi
  obtain ⟨bp, op, lp, lpc, rfl, _, hbp, p0, hin, _⟩ := hP i hi
  go_enter Tryd.func19, Tryd.ntmps19
  go_wp2
  go_ret
  exact ⟨rfl, b1 _ _⟩

set_option maxRecDepth 20000 in
set_option maxHeartbeats 4000000 in
theorem specPlace_line (a : Option Addr) (len cap : Nat) (g : Nat → Int) (gap : Int) (a' : Option Addr) (np cap' : Nat) (f : Nat → TrainD) (oa : Option Addr) (no oc : Nat) (o : Nat → Int) (w : World) (hl : len ≤ 1048576) (hl' : np ≤ 1048576) (hml : ∀ j, j < np → (f j).nl ≤ 1048576)
    (hI : IsInts 0 w.heap.size w a len g) (hT : IsTrains 0 w.heap.size w a' np f) (hno : no ≤ 1048576) (hbad : ¬ ((faultOf len g gap np f).1 = 0 ∧ no ≤ 10)) :
    Calls Tryd.prog 7 #[.agg #[.slice a len cap, .int .i64 gap, .slice a' np cap'], .slice oa no oc] w fun e w' => (∃ v, e = .returned v ∧ IsPlaced w.heap.size w' (placeSt len g gap np f no o) np v) ∧ Below w.heap.size w w' := by
  have hst : placeSt len g gap np f no o = ⟨1, 0, fun _ => ⟨0, fun _ => 0⟩, 0⟩ := by unfold placeSt; rw [if_neg hbad]
  rw [hst]
  have hN := b2 w (.cells #[.slice a len cap, .int .i64 gap, .slice a' np cap'] 26) (.cells #[.int .i64 0, .int .i64 0, .slice none 0 0] 33)
  obtain ⟨⟨y0, y1, y2⟩, hRm⟩ := box31 w a len cap gap a' np cap' 26 33
  have hend : ∀ w2, Below ((w.alloc (.cells #[.slice a len cap, .int .i64 gap, .slice a' np cap'] 26)).alloc (.cells #[.int .i64 0, .int .i64 0, .slice none 0 0] 33)).heap.size ((w.alloc (.cells #[.slice a len cap, .int .i64 gap, .slice a' np cap'] 26)).alloc (.cells #[.int .i64 0, .int .i64 0, .slice none 0 0] 33)) w2 → Room (w.heap.size + 1) 3 w2 := fun w2 h => hRm.below h (by simp)
  by_cases hF : (faultOf len g gap np f).1 = 0
  · have hn : ¬ no ≤ 10 := fun h => hbad ⟨hF, h⟩
    have hn' : (10 : Int) < (no : Int) := by omega
    have hok := l1ok_yes a len cap g gap a' np cap' f _ hl hl' hml (hI.grow hN) (hT.grow hN) (faultOf_snd hF)
    go_enter Tryd.func7, Tryd.ntmps7
    go_wp2_with (go_at_call 16; refine hok.mono ?_; rintro _ w2 ⟨rfl, hB2⟩; obtain ⟨v0, m0, z0⟩ := hend _ hB2 0 (by omega); obtain ⟨v1, m1, z1⟩ := hend _ hB2 1 (by omega); obtain ⟨v2, m2, z2⟩ := hend _ hB2 2 (by omega))
    refine bodyPost_ret (v := .agg #[.int .i64 1, .int .i64 0, .slice none 0 0]) (by simp [results, Tryd.results7, go_sem, m0, m1, m2]) rfl ⟨⟨_, rfl, .slice none 0 0, rfl, fun _ => rfl, fun h => by simp at h⟩, ?_⟩
    exact below_set3 (Below.join hN (Nat.le_refl _) hB2) (by omega) _ _ _
  · have hok := l1ok_no a len cap g gap a' np cap' f _ hl hl' hml (hI.grow hN) (hT.grow hN) hF
    go_enter Tryd.func7, Tryd.ntmps7
    go_wp2_with (go_at_call 16; refine hok.mono ?_; rintro _ w2 ⟨rfl, hB2⟩; obtain ⟨v0, m0, z0⟩ := hend _ hB2 0 (by omega); obtain ⟨v1, m1, z1⟩ := hend _ hB2 1 (by omega); obtain ⟨v2, m2, z2⟩ := hend _ hB2 2 (by omega))
    refine bodyPost_ret (v := .agg #[.int .i64 1, .int .i64 0, .slice none 0 0]) (by simp [results, Tryd.results7, go_sem, m0, m1, m2]) rfl ⟨⟨_, rfl, .slice none 0 0, rfl, fun _ => rfl, fun h => by simp at h⟩, ?_⟩
    exact below_set3 (Below.join hN (Nat.le_refl _) hB2) (by omega) _ _ _

set_option maxRecDepth 20000 in
set_option maxHeartbeats 8000000 in
theorem specPlace_main (a : Option Addr) (len cap : Nat) (g : Nat → Int) (gap : Int) (a' : Option Addr) (np cap' : Nat) (f : Nat → TrainD) (oa : Option Addr) (no oc : Nat) (o : Nat → Int) (w : World) (hl : len ≤ 1048576) (hl' : np ≤ 1048576) (hml : ∀ j, j < np → (f j).nl ≤ 1048576)
    (hI : IsInts 0 w.heap.size w a len g) (hT : IsTrains 0 w.heap.size w a' np f) (hO : IsInts 0 w.heap.size w oa no o) (hF : faultOf len g gap np f = (0, 0)) (hno : no ≤ 10) :
    Calls Tryd.prog 7 #[.agg #[.slice a len cap, .int .i64 gap, .slice a' np cap'], .slice oa no oc] w fun e w' => (∃ v, e = .returned v ∧ IsPlaced w.heap.size w' (placeSt len g gap np f no o) np v) ∧ Below w.heap.size w w' := by
  have hR := rightL_of hF
  have hG := rightG_of hF
  have htr := hR.tr
  have hst : placeSt len g gap np f no o = if (runP np g f gap o no).code ≠ 0 then runP np g f gap o no else if no = legSum f np then runP np g f gap o no else ⟨4, no, (runP np g f gap o no).P, (runP np g f gap o no).last⟩ := by unfold placeSt; rw [if_pos ⟨by rw [hF], hno⟩]
  have hst' : Hid _ := hst
  generalize placeSt len g gap np f no o = ST at hst'
  clear hst
  have hN := b2 w (.cells #[.slice a len cap, .int .i64 gap, .slice a' np cap'] 26) (.cells #[.int .i64 0, .int .i64 0, .slice none 0 0] 33)
  obtain ⟨⟨y0, y1, y2⟩, hRm⟩ := box31 w a len cap gap a' np cap' 26 33
  have hok := l1ok_yes a len cap g gap a' np cap' f _ hl hl' hml (hI.grow hN) (hT.grow hN) hF
  have hno' : ¬ ((10 : Int) < (no : Int)) := by omega
  have lR : w.heap.size + 1 < ((w.alloc (.cells #[.slice a len cap, .int .i64 gap, .slice a' np cap'] 26)).alloc (.cells #[.int .i64 0, .int .i64 0, .slice none 0 0] 33)).heap.size := by simp
  go_enter Tryd.func7, Tryd.ntmps7
  go_wp2_with (first | (go_at_call 16; refine hok.mono ?_; rintro _ w2 ⟨rfl, hB2⟩; have hBw := Below.join hN (Nat.le_refl _) hB2; replace y0 := cellLater hB2 y0; replace y1 := cellLater hB2 y1; replace y2 := cellLater hB2 y2; replace hRm := hRm.below hB2 lR; have lR2 := Nat.lt_of_lt_of_le lR hB2.size) | (go_at_call 17; refine (l2new_any a len cap gap a' np cap' w2 htr).mono ?_; rintro _ W ⟨⟨gR, c, nc, rfl, hLP⟩, hB3⟩; replace hBw := Below.join hBw (Nat.le_refl _) hB3; replace y0 := cellLater hB3 y0; replace y1 := cellLater hB3 y1; replace y2 := cellLater hB3 y2; replace hRm := hRm.below hB3 lR2))
  have hWs : w2.heap.size ≤ W.heap.size := hB3.size
  clear hok hB2 hN hB3 hno'
  go_loopw [22] (fun kk wr => ∃ (k : Nat) (v : Nat → Value), k ≤ no ∧ kk = .int .i64 k ∧ (runP np g f gap o k).code = 0 ∧ RunOk len np g f gap (runP np g f gap o k) k ∧ LP w2.heap.size wr (w2.heap.size + 1) gR a len cap gap a' np cap' c nc v (runP np g f gap o k).P (runP np g f gap o k).last ∧ Below w2.heap.size W wr) (fun kk _ => no - (intOf kk).toNat)
  case atStart => exact ⟨0, _, Nat.zero_le _, rfl, rfl, runP_zero np g f gap o len, hLP, Below.refl _ _⟩
  case round =>
    obtain ⟨k, v, hk, rfl, hcode, hrun, hL, hBr⟩ := hrel
    have hlw : w.heap.size ≤ w2.heap.size := by omega
    have hBwr : Below w.heap.size w wr := hBw.trans (hBr.mono hlw)
    have z0 := (hBr.cell (p := ⟨w.heap.size, 0, none⟩) (by dsimp only; omega)).trans y0
    have z1 := (hBr.cell (p := ⟨w.heap.size, 1, none⟩) (by dsimp only; omega)).trans y1
    have z2 := (hBr.cell (p := ⟨w.heap.size, 2, none⟩) (by dsimp only; omega)).trans y2
    have hIw := (hI.below hBwr (Nat.le_refl _)).mono (Nat.le_refl 0) hBwr.size
    have hTw := (hT.below hBwr (Nat.le_refl _)).mono (Nat.le_refl 0) hBwr.size
    have hRw := hRm.below hBr (by omega)
    by_cases hlt : k < no
    · have hk' : (k : Int) < (no : Int) := by omega
      have hk0 : (0 : Int) ≤ (k : Int) := by omega
      obtain ⟨bo, oo, rfl, _, _, qo⟩ := hO k hlt
      replace qo := (hBwr.cell (p := ⟨bo, oo + k, none⟩) (by dsimp only; omega)).trans qo
      have hrun1 : runP np g f gap o (k + 1) = stepP np g f gap (o k) k (runP np g f gap o k) := rfl
      have hstick : ∀ st : StP, runP np g f gap o (k + 1) = st → st.code ≠ 0 → runP np g f gap o no = st := fun st h1 h2 => by
        have := runP_stick (np := np) (g := g) (f := f) (gap := gap) (o := o) (k := k + 1) (by rw [h1]; exact h2) (no - (k + 1))
        rw [show k + 1 + (no - (k + 1)) = no by omega, h1] at this
        exact this
      have hrun1' : Hid _ := hrun1
      have hstick' : Hid _ := hstick
      clear hrun1 hstick
      generalize hst0 : runP np g f gap o k = st at hcode hrun hL
      rw [hst0] at hrun1'
      clear hst0
      generalize o k = ok at qo hrun1'
      obtain ⟨r0, rm0, rz0⟩ := hRw 0 (by omega)
      obtain ⟨r1, rm1, rz1⟩ := hRw 1 (by omega)
      obtain ⟨r2, rm2, rz2⟩ := hRw 2 (by omega)
      have hwn : IntKind.i64.wrap ((np : Int) - 1) = (np : Int) - 1 := by rw [IntKind.wrap_i64]; omega
      have hl1 := l1in_any ok 0 ((np : Int) - 1) wr
      cases hin : inB ok 0 ((np : Int) - 1)
      · have hstv : Hid (ST = ⟨2, k, st.P, st.last⟩) := by
          unfold Hid
          have h1 : runP np g f gap o (k + 1) = ⟨2, k, st.P, st.last⟩ := by rw [hrun1'.out]; unfold stepP; rw [if_neg (by simp [hcode]), if_neg (by simp [hin])]
          have h2 := hstick'.out _ h1 (by simp)
          rw [hst'.out, h2, if_pos (by simp)]
        rw [hin] at hl1
        clear hin hrun1' hstick'
        go_wp2_with (go_at_call 18; refine hl1.mono ?_; rintro _ _ ⟨rfl, rfl⟩)
        refine bodyPost_ret (v := .agg #[.int .i64 2, .int .i64 k, .slice none 0 0]) (by simp [results, Tryd.results7, go_sem, rm0, rm1, rm2]) rfl ⟨⟨_, rfl, .slice none 0 0, by rw [hstv.out], fun _ => rfl, fun h => by rw [hstv.out] at h; simp at h⟩, below_set3 hBwr (by omega) _ _ _⟩
      · rw [hin] at hl1
        obtain ⟨h00, h01⟩ := of_decide_eq_true hin
        obtain ⟨i, hi⟩ : ∃ i : Nat, ok = (i : Int) := ⟨ok.toNat, by omega⟩
        subst hi
        have hip : i < np := by omega
        have hpart := hrun.part
        have hn10 : ∀ j, j < np → (st.P j).n ≤ 10 := fun j hj => Nat.le_trans (hpart.le j hj) (hR.train j hj).nl
        clear h00 h01
        have hbad : ∀ cc : Int, cc ≠ 0 → nextOf np g f st.P gap st.last i = (cc, 0) → ST = ⟨cc, k, st.P, st.last⟩ := fun cc hc hn => by
          have h1 : runP np g f gap o (k + 1) = ⟨cc, k, st.P, st.last⟩ := by rw [hrun1'.out]; unfold stepP; rw [if_neg (by simp [hcode]), if_pos hin, Int.toNat_natCast, hn, if_neg (by simpa using hc)]
          have h2 := hstick'.out _ h1 hc
          rw [hst'.out, h2, if_pos hc]
        have hbad' : Hid _ := hbad
        have hin' : Hid _ := hin
        clear hbad hin hstick'
        by_cases hnn : (st.P i).n = (f i).nl
        · have hnx := next_two (w2.heap.size + 1) a len cap gap a' np cap' f c nc st.P st.last i wr hR hip hnn hL.l2 hTw (hL.rows hn10)
          have hstv : Hid (ST = ⟨2, k, st.P, st.last⟩) := hbad'.out 2 (by decide) (nextOf_two hnn)
          clear hbad' hrun1'
          go_wp2_with (first | (go_at_call 18; refine hl1.mono ?_; rintro _ _ ⟨rfl, rfl⟩) | (go_at_call 19; refine hnx.mono ?_; rintro _ w5 ⟨rfl, hB5⟩; replace rz0 := (hB5.frozen (ltCell rm0)).trans rz0; replace rz1 := (hB5.frozen (ltCell rm1)).trans rz1; replace rz2 := (hB5.frozen (ltCell rm2)).trans rz2; replace rm0 := cellLater hB5 rm0; replace rm1 := cellLater hB5 rm1; replace rm2 := cellLater hB5 rm2))
          refine bodyPost_ret (v := .agg #[.int .i64 2, .int .i64 k, .slice none 0 0]) (by simp [results, Tryd.results7, go_sem, rm0, rm1, rm2]) rfl ⟨⟨_, rfl, .slice none 0 0, by rw [hstv.out], fun _ => rfl, fun h => by rw [hstv.out] at h; simp at h⟩, below_set3 (Below.join hBwr (Nat.le_refl _) hB5) (by omega) _ _ _⟩
        · have hnlt : (st.P i).n < (f i).nl := by have := hpart.le i hip; omega
          have hlb := hrun.lb
          have hbase : w2.heap.size ≤ wr.heap.size := Nat.le_trans hWs hBr.size
          have hk10 : k < 10 := by omega
          have hnx := next_main w2.heap.size (w2.heap.size + 1) gR a len cap g gap a' np cap' f c nc v st.P st.last i wr hR hG hpart hip hnlt (by omega) hL hIw hTw
          go_wp2_with (first | (go_at_call 18; refine hl1.mono ?_; rintro _ _ ⟨rfl, rfl⟩) | (go_at_call 19; refine hnx.mono ?_; rintro _ w5 hpost; have hb5 : Below w2.heap.size _ w5 := (hpost.elim (fun h => h.2.2.mono hbase) (fun ⟨_, _, _, _, h, _⟩ => h)); replace rz0 := (hb5.frozen (p := ⟨w.heap.size + 1, 0, none⟩) lR2).trans rz0; replace rz1 := (hb5.frozen (p := ⟨w.heap.size + 1, 1, none⟩) lR2).trans rz1; replace rz2 := (hb5.frozen (p := ⟨w.heap.size + 1, 2, none⟩) lR2).trans rz2; replace rm0 := (hb5.cell (p := ⟨w.heap.size + 1, 0, none⟩) lR2).trans rm0; replace rm1 := (hb5.cell (p := ⟨w.heap.size + 1, 1, none⟩) lR2).trans rm1; replace rm2 := (hb5.cell (p := ⟨w.heap.size + 1, 2, none⟩) lR2).trans rm2; rcases hpost with (⟨hall, rfl, _⟩ | ⟨t, v', hfst, rfl, hB5, hL5⟩)))
          · have hstv : Hid (ST = ⟨3, k, st.P, st.last⟩) := hbad'.out 3 (by decide) (nextOf_three hnn hall)
            clear hbad' hrun1' hall
            go_wp2
            refine bodyPost_ret (v := .agg #[.int .i64 3, .int .i64 k, .slice none 0 0]) (by simp [results, Tryd.results7, go_sem, rm0, rm1, rm2]) rfl ⟨⟨_, rfl, .slice none 0 0, by rw [hstv.out], fun _ => rfl, fun h => by rw [hstv.out] at h; simp at h⟩, below_set3 (hBwr.trans (hb5.mono hlw)) (by omega) _ _ _⟩
          · have hstp := runOk_step hR hG hrun hcode hip hnlt hfst hk10
            have hr1 : Hid (runP np g f gap o (k + 1) = ⟨0, 0, moreP st.P i t, t⟩) := by unfold Hid; rw [hrun1'.out]; exact hstp.1
            have hr2 : Hid _ := hstp.2
            clear hbad' hrun1' hstp hfst
            go_wp2
            go_roundw
            case rel => exact ⟨k + 1, v', by omega, by go_num, by rw [hr1.out], by rw [hr1.out]; exact hr2.out, by rw [hr1.out]; exact hL5, hBr.trans hB5⟩
            case measure => simp [intOf]; omega
    · obtain rfl : k = no := by omega
      have hleg := l1legs_any a len cap gap a' np cap' f wr htr hml hTw
      have hsum := hrun.sum
      obtain ⟨r0, rm0, rz0⟩ := hRw 0 (by omega)
      obtain ⟨r1, rm1, rz1⟩ := hRw 1 (by omega)
      obtain ⟨r2, rm2, rz2⟩ := hRw 2 (by omega)
      have hlegb := hG.legs
      have hn10 : ∀ j, j < np → ((runP np g f gap o k).P j).n ≤ 10 := fun j hj => Nat.le_trans (hrun.part.le j hj) (hR.train j hj).nl
      have hrows := hL.ownP
      by_cases hkl : k = legSum f np
      · have hstv : Hid (ST = runP np g f gap o k) := by unfold Hid; rw [hst'.out, if_neg (by simp [hcode]), if_pos hkl]
        have hat : Hid ((runP np g f gap o k).at_ = 0) := runP_at k hcode
        have hkb : ((k : Int) != (legSum f np : Int)) = false := by simp; omega
        have hkl' : Hid _ := hkl
        generalize legSum f np = lg at hleg hkb hlegb hkl'
        clear hkl
        have x3 := hL.l2.c3
        go_wp2_with (go_at_call 20; refine hleg.mono ?_; rintro _ w5 ⟨rfl, hB5⟩; replace rz0 := (hB5.frozen (ltCell rm0)).trans rz0; replace rz1 := (hB5.frozen (ltCell rm1)).trans rz1; replace rz2 := (hB5.frozen (ltCell rm2)).trans rz2; replace rm0 := cellLater hB5 rm0; replace rm1 := cellLater hB5 rm1; replace rm2 := cellLater hB5 rm2; replace x3 := cellLater hB5 x3; replace hrows := hrows.later hB5)
        refine bodyPost_ret (v := .agg #[.int .i64 0, .int .i64 0, .slice c np nc]) (by simp [results, Tryd.results7, go_sem, rm0, rm1, rm2]) rfl ⟨⟨_, rfl, .slice c np nc, by rw [hstv.out, hcode, hat.out]; rfl, fun h => by rw [hstv.out] at h; exact absurd hcode h, fun _ => ⟨c, nc, rfl, ?_, ?_⟩⟩, below_set3 (Below.join hBwr (Nat.le_refl _) hB5) (by omega) _ _ _⟩
        · rw [hstv.out]
          exact (((hrows.set (by dsimp only; omega)).set (by dsimp only; omega)).set (by dsimp only; omega)).low (by omega)
        · rw [hstv.out]
          exact hn10
      · have hstv : Hid (ST = ⟨4, k, (runP np g f gap o k).P, (runP np g f gap o k).last⟩) := by unfold Hid; rw [hst'.out, if_neg (by simp [hcode]), if_neg hkl]
        have hkb : ((k : Int) != (legSum f np : Int)) = true := by simp; omega
        generalize legSum f np = lg at hleg hkb hlegb
        clear hkl
        go_wp2_with (go_at_call 20; refine hleg.mono ?_; rintro _ w5 ⟨rfl, hB5⟩; replace rz0 := (hB5.frozen (ltCell rm0)).trans rz0; replace rz1 := (hB5.frozen (ltCell rm1)).trans rz1; replace rz2 := (hB5.frozen (ltCell rm2)).trans rz2; replace rm0 := cellLater hB5 rm0; replace rm1 := cellLater hB5 rm1; replace rm2 := cellLater hB5 rm2)
        refine bodyPost_ret (v := .agg #[.int .i64 4, .int .i64 k, .slice none 0 0]) (by simp [results, Tryd.results7, go_sem, rm0, rm1, rm2]) rfl ⟨⟨_, rfl, .slice none 0 0, by rw [hstv.out], fun _ => rfl, fun h => by rw [hstv.out] at h; simp at h⟩, below_set3 (Below.join hBwr (Nat.le_refl _) hB5) (by omega) _ _ _⟩

theorem specPlace_any (a : Option Addr) (len cap : Nat) (g : Nat → Int) (gap : Int) (a' : Option Addr) (np cap' : Nat) (f : Nat → TrainD) (oa : Option Addr) (no oc : Nat) (o : Nat → Int) (w : World) (hl : len ≤ 1048576) (hl' : np ≤ 1048576) (hml : ∀ j, j < np → (f j).nl ≤ 1048576) (hno : no ≤ 1048576)
    (hI : IsInts 0 w.heap.size w a len g) (hT : IsTrains 0 w.heap.size w a' np f) (hO : IsInts 0 w.heap.size w oa no o) :
    Calls Tryd.prog 7 #[.agg #[.slice a len cap, .int .i64 gap, .slice a' np cap'], .slice oa no oc] w fun e w' => (∃ v, e = .returned v ∧ IsPlaced w.heap.size w' (placeSt len g gap np f no o) np v) ∧ Below w.heap.size w w' := by
  by_cases h : (faultOf len g gap np f).1 = 0 ∧ no ≤ 10
  · exact specPlace_main a len cap g gap a' np cap' f oa no oc o w hl hl' hml hI hT hO (faultOf_snd h.1) h.2
  · exact specPlace_line a len cap g gap a' np cap' f oa no oc o w hl hl' hml hI hT hno h
end Go.Proofs.YtnjaegeapcijpaaDoor
