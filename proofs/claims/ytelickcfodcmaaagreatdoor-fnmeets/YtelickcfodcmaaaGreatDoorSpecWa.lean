/-
  The model's next leg: the last statement.
-/
import Derived.Test.YtelickcfodcmaaaGreatDoorSpecU
import Derived.Deep.RegionLaw
import Derived.Deep.DeepCutAuto
import Derived.Maps.AppendAt
namespace Go.Proofs.YtelickcfodcmaaaGreatDoor
open Go.RowKit

/-- the code from a region on -/
def fromRegion (id : Nat) : Code → Option Code
  | .seq (.region i ops d) r => if i = id then some (.seq (.region i ops d) r) else fromRegion id r
  | .seq a b => match fromRegion id a with
    | some c => some c
    | none => fromRegion id b
  | .block _ c => fromRegion id c
  | .scope c => fromRegion id c
  | .loop c => fromRegion id c
  | .cond _ a b => match fromRegion id a with
    | some c => some c
    | none => fromRegion id b
  | _ => none
noncomputable def nextE : Code := ((Tryz.f91.body.bind (fromRegion 43)).getD .skip)

set_option maxRecDepth 20000 in
set_option maxHeartbeats 16000000 in
theorem next_e {s2 s3 s4 s5 s6 s8 s9 s10 s11 s12 s13 s14 s15 s16 s17 s18 s19 s20 s21 s22 s23 s24 s25 s26 s27 s28 s29 s30 s31 s32 s33 s34 s35 s36 s37 s38 s39 s40 s41 s42 s43 s44 s45 s46 s47 s48 s49 s50 s51 s52 s53 s54 s55 s56 s57 s58 s59 s60 s61 s62 s63 s64 s65 s66 s67 s68 s69 s70 s71 s72 s73 s74 s75 s76 s77 s78 s79 s80 s81 s82 s83 s84 s85 s86 s87 s88 s89 s90 s91 s92 s93 s94 s95 s96 s97 s98 s99 s100 s101 s102 s103 s104 s105 s106 s107 s108 s109 s110 s111 s112 s113 s114 s115 s116 s117 s118 s119 s120 s121 s122 s123 s124 s125 s126 s127 s128 s129 s130 s131 s132 s133 s134 s135 s136 s137 s138 s139 s140 s141 s142 s143 s144 s145 s146 s147 s148 s149 s150 s151 s152 s153 s154 s155 s156 s157 s158 s159 s160 s161 s162 s163 s164 s165 s166 s167 s168 s169 s170 s171 s172 s173 s174 s175 s176 s177 s178 s179 s180 s181 s182 s183 s184 s185 s186 s187 s188 s189 s190 s191 s192 s193 s194 s195 s196 s197 s198 s199 s200 s201 s202 s203 s204 s205 s206 s207 s208 s209 s210 s211 s212 s213 s214 s215 s216 s217 s218 s219 s220 s221 s222 s223 s224 s225 s226 s227 s228 s229 s230 s231 s232 s233 s234 s235 s236 s237 s238 s239 s240 s241 s242 s243 s244 s245 s246 s247 s248 s249 : Value} (B0 b gR : Nat) (a : Option Addr) (len cap : Nat) (gap : Int) (a' : Option Addr) (np cap' : Nat) (c : Option Addr) (nc : Nat) (v : Nat → Value) (P : Nat → RowD) (last : Int) (i : Nat) (T : Int) (w9 : World) (post : Ending → World → Prop) (_hnp : np ≤ 5) (hi : i < np) (hn10 : ∀ j, j < np → (P j).n ≤ 10)
    (hLP : LP B0 w9 b gR a len cap gap a' np cap' c nc v P last) (hpost : ∀ v' W, Below B0 w9 W → LP B0 W b gR a len cap gap a' np cap' c nc v' (moreP P i T) T → post (.returned (.int .i64 0)) W) :
    Code.wp Tryz.prog nextE (bodyPost Tryz.prog Tryz.f91 (fun e w' => post e w' ∧ True)) ⟨#[.pointer (some ⟨b, 0, none⟩), .int .i64 i, s2, s3, s4, s5, s6, .int .i64 T, s8, s9, s10, s11, s12, s13, s14, s15, s16, s17, s18, s19, s20, s21, s22, s23, s24, s25, s26, s27, s28, s29, s30, s31, s32, s33, s34, s35, s36, s37, s38, s39, s40, s41, s42, s43, s44, s45, s46, s47, s48, s49, s50, s51, s52, s53, s54, s55, s56, s57, s58, s59, s60, s61, s62, s63, s64, s65, s66, s67, s68, s69, s70, s71, s72, s73, s74, s75, s76, s77, s78, s79, s80, s81, s82, s83, s84, s85, s86, s87, s88, s89, s90, s91, s92, s93, s94, s95, s96, s97, s98, s99, s100, s101, s102, s103, s104, s105, s106, s107, s108, s109, s110, s111, s112, s113, s114, s115, s116, s117, s118, s119, s120, s121, s122, s123, s124, s125, s126, s127, s128, s129, s130, s131, s132, s133, s134, s135, s136, s137, s138, s139, s140, s141, s142, s143, s144, s145, s146, s147, s148, s149, s150, s151, s152, s153, s154, s155, s156, s157, s158, s159, s160, s161, s162, s163, s164, s165, s166, s167, s168, s169, s170, s171, s172, s173, s174, s175, s176, s177, s178, s179, s180, s181, s182, s183, s184, s185, s186, s187, s188, s189, s190, s191, s192, s193, s194, s195, s196, s197, s198, s199, s200, s201, s202, s203, s204, s205, s206, s207, s208, s209, s210, s211, s212, s213, s214, s215, s216, s217, s218, s219, s220, s221, s222, s223, s224, s225, s226, s227, s228, s229, s230, s231, s232, s233, s234, s235, s236, s237, s238, s239, s240, s241, s242, s243, s244, s245, s246, s247, s248, s249], []⟩ w9 := by
  conv => arg 2; whnf
  have hi' : (i : Int) < (np : Int) := by omega
  have hi0 : (0 : Int) ≤ (i : Int) := by omega
  have hpost' : Hid _ := hpost
  clear hpost
  obtain ⟨ecR, hvi, hvz⟩ := hLP.row i hi
  subst ecR
  have y3 := hLP.l2.c3
  have y4 := hLP.l2.c4
  have yz := hLP.z4
  have lB0 : B0 ≤ w9.heap.size := by have h1 := hLP.lb; have h2 := ltCell y3; dsimp only at h2; omega
  obtain ⟨i0, ii, iz0, iz1, iz2⟩ := info_parts Tryz.infoInt
  have hA9 := Below.join (Below.refl w9.heap.size w9).drew (Nat.le_refl _) (b1 w9.drew (.cells #[.int .i64 T] 3))
  have hownA := (hLP.later hA9).own i hi
  have hnl2 := hn10 i hi
  obtain ⟨v', W1, hap, hown1, hgr1, _, hloc1⟩ := run_append_own_at (P := Tryz.prog) (w9.drew.alloc (.cells #[.int .i64 T] 3)) B0 23 23 3 i0 _ 1 8 Tryz.underlying23 ii iz0 iz1 iz2 rfl (by decide) (v i) (P i).n (rowCells (P i)) hownA ⟨w9.heap.size, 0, none⟩ 1 1 [.int .i64 T] rfl (fun jj u hj => by have h := cells1_lie (W := w9.drew) (x := .int .i64 T) (t := 3) jj u hj; exact h) one1 (by unfold maxLen; omega) (by omega) (by simp; omega)
  obtain ⟨gn, cn, rfl⟩ := Joins.ownsRow_form hown1 (by omega)
  have hap' : Hid _ := hap
  clear hap
  have hput := hLP.put hA9 hi hown1 hgr1 hloc1
  have hput' : Hid _ := hput
  have hLA := hLP.later hA9
  have lgA := ltCell (hLA.row i hi).2.1
  have lbA := ltCell hLA.l2.c4
  dsimp only at lgA lbA
  have hgk := hgr1.block _ lgA (fun e => (hLA.off i hi).2 e.symm)
  have hbk := hgr1.block _ lbA (fun e => (hLA.off i hi).1 e.symm)
  have m0 := (World.cell?_of_block (w' := W1) (a := ⟨_, i, none⟩) hgk).trans (hLA.row i hi).2.1
  have mz := (World.frozen?_of_block (w' := W1) (a := ⟨_, i, none⟩) hgk).trans (hLA.row i hi).2.2
  have m4 := (World.cell?_of_block (w' := W1) (a := ⟨b, 4, none⟩) hbk).trans hLA.l2.c4
  have m3 := (World.cell?_of_block (w' := W1) (a := ⟨b, 3, none⟩) hbk).trans hLA.l2.c3
  have mz4 := (World.frozen?_of_block (w' := W1) (a := ⟨b, 4, none⟩) hbk).trans hLA.z4
  have hneb := hLA.ne
  have lg9 := ltCell hvi
  have lb9 := ltCell y3
  dsimp only at lg9 lb9
  clear hput hown1 hgr1 hloc1 hLA hgk hbk
  go_wp2
  go_region_law (refine step_append_eq _ (by rfl) _ _ _ (by rfl) _ _ _ _ (by rfl) (by rfl) hap'.out ?_)
  all_goals
    go_wp2
    go_ret
    exact ⟨hpost'.out _ _ hput'.out.2 hput'.out.1, trivial⟩
end Go.Proofs.YtelickcfodcmaaaGreatDoor
