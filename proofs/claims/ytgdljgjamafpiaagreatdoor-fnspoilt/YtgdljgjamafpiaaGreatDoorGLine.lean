/-
  The draws of the model: a line, a train's legs.
  The draws of the model: a line, its trains.
  The draws of the model: a line, its tracks.
-/
import Derived.Test.YtgdljgjamafpiaaGreatDoorGCur
import Derived.Test.YtgdljgjamafpiaaGreatDoorGenM
import Derived.Test.YtgdljgjamafpiaaGreatDoorCurP
import Derived.Deep.RegionHeld3
import Derived.Maps.AppendAt
namespace Go.Proofs.YtgdljgjamafpiaaGreatDoor
open Go.RowKit

/-- the first region of a code -/
def firstRegC : Code → Option Nat
  | .region i _ _ => some i
  | .seq a b => match firstRegC a with
    | some i => some i
    | none => firstRegC b
  | .block _ c => firstRegC c
  | .scope c => firstRegC c
  | .loop c => firstRegC c
  | _ => none
/-- the body of the loop that begins with a region -/
def loopAtC (id : Nat) : Code → Option Code
  | .loop c => match firstRegC c with
    | some i => if i = id then some c else loopAtC id c
    | none => loopAtC id c
  | .seq a b => match loopAtC id a with
    | some c => some c
    | none => loopAtC id b
  | .block _ c => loopAtC id c
  | .scope c => loopAtC id c
  | .cond _ a b => match loopAtC id a with
    | some c => some c
    | none => loopAtC id b
  | _ => none
noncomputable def lineL : Code := ((Tryz.f13.body.bind (loopAtC 14)).getD .skip)

theorem Cur.grown {w0 W W' : World} {b k : Nat} {row : Option Nat} (h : Cur w0 b k W) (hg : W.grownBy W' row) (hr : ∀ j, row = some j → b < j) : Cur w0 b k W' :=
  h.same (below_grown h.base hg (by have := h.base.size; omega) (fun j hj => by have := hr j hj; have := h.lo; omega)) (hg.block b h.lt (fun e => by have := hr b e.symm; omega))
theorem Cur.set {w0 W : World} {b k : Nat} (h : Cur w0 b k W) (p : Addr) (hp : b < p.block) (x : Value) : Cur w0 b k (W.setCell p x) :=
  h.same (h.base.setCell (by have := h.lo; omega) x) (Below.heap_setCell W p x b (by omega))
theorem TBox.grown4 {B0 bt : Nat} {W W' : World} {t : TrL} {lv : Value} (h : TBox B0 bt W t lv) (hg : W.grownBy W' lv.ownBlock) : W'.cell? ⟨bt, 4, none⟩ = some lv ∧ W'.frozen? ⟨bt, 4, none⟩ = false := by
  have hbk : W'.heap[bt]? = W.heap[bt]? := hg.block bt (ltCell h.c0) (fun e => h.off e.symm)
  exact ⟨(World.cell?_of_block (w := W) (w' := W') (a := ⟨bt, 4, none⟩) hbk).trans h.c4, (World.frozen?_of_block (w := W) (w' := W') (a := ⟨bt, 4, none⟩) hbk).trans h.z4⟩
theorem TBox.due {B0 bt : Nat} {W : World} {t : TrL} {lv : Value} (h : TBox B0 bt W t lv) (d : Int) : TBox B0 bt (W.setCell ⟨bt, 2, none⟩ (.int .i64 d)) { t with due := d } lv :=
  ⟨(cell_set_ne (by omega)).trans h.c0, (cell_set_ne (by omega)).trans h.c1, World.cell?_setCell_same _ _ _ h.c2, (cell_set_ne (by omega)).trans h.c3, (cell_set_ne (by omega)).trans h.c4, (World.frozen?_setCell ..).trans h.z4, ownsRow_same h.legs (fun k hk => Below.heap_setCell W _ _ k (fun e => h.off (by rw [hk, e]))), h.off⟩
theorem LBox.grown2 {B0 bl : Nat} {W W' : World} {tr : List Int} {gap : Int} {L : List TrV} {vt vT : Value} (h : LBox B0 bl W tr gap L vt vT) (hg : W.grownBy W' vT.ownBlock) : W'.cell? ⟨bl, 2, none⟩ = some vT ∧ W'.frozen? ⟨bl, 2, none⟩ = false := by
  have hlt := h.lt
  have hbk : W'.heap[bl]? = W.heap[bl]? := hg.block bl (ltCell h.c0) (fun e => by have := (h.own.trs.lt (Or.inl e.symm)).1; omega)
  exact ⟨(World.cell?_of_block (w := W) (w' := W') (a := ⟨bl, 2, none⟩) hbk).trans h.c2, (World.frozen?_of_block (w := W) (w' := W') (a := ⟨bl, 2, none⟩) hbk).trans h.z2⟩
theorem legs_lie (W : World) (x y z : Int) (o : Obj) : ∀ (j : Nat) (u : Value), [Value.int .i64 x, .int .i64 y, .int .i64 z][j]? = some u → ((W.alloc o).alloc (.cells #[.int .i64 x, .int .i64 y, .int .i64 z] 68)).cell? ((⟨W.heap.size + 1, 0, none⟩ : Addr).add j) = some u := fun j u hj => by
  have h := cells3_lie (W := W.alloc o) (x := .int .i64 x) (y := .int .i64 y) (z := .int .i64 z) (t := 68) j u hj
  rw [World.size_alloc] at h
  exact h
/-- a train in the making -/
structure LegsI (w0 : World) (b bt N kC g k0 : Nat) (y1 y2 y3 : Int) (v3 : World) (g' kk k3 : Nat) (up at' sum : Int) (t : TrL) (lv : Value) (W : World) : Prop where
  tb : TBox (bt + 1) bt W t lv
  same : t.frm = y1 ∧ t.ready = y2 ∧ t.weight = 1 + y3
  gl : t.legs.length + g' = g
  kl : t.legs.length + k3 = k0
  walk : Walk N y1 t.legs at'
  at_ : 0 ≤ at' ∧ at' < N
  up : up = 0 ∨ up = 1
  sum : 0 ≤ sum ∧ sum ≤ 40 + 40 * (t.legs.length : Int)
  cur : Cur w0 b kk W
  kk : kk ≤ kC + 10 + 4 * t.legs.length
  mid : Mid b (b + 1) v3 W
  room : Room bt 5 W
theorem LegsI.step {w0 : World} {b bt N kC g k0 : Nat} {y1 y2 y3 : Int} {v3 : World} {g' kk k3 : Nat} {up at' sum : Int} {t : TrL} {lv : Value} {W v6 v7 W1 : World} {up' to y6 y7 : Int} {v' : Value} {o o' : Obj}
    (hI : LegsI w0 b bt N kC g k0 y1 y2 y3 v3 g' kk k3 up at' sum t lv W) (hv3 : bt = v3.heap.size) (hbt : b < bt) (hE6 : Mid b (b + 1) W v6) (hE7 : Mid b (b + 1) v6 v7) (hD7 : Cur w0 b (kk + 2 + 2) v7)
    (hg' : 0 < g') (hk3 : 0 < k3) (hup : up' = 0 ∨ up' = 1) (hto : to = at' + 1 ∨ to = at' - 1) (ht0 : 0 ≤ to) (ht1 : to < N) (hy6 : 0 ≤ y6) (hy61 : y6 < 30 ∨ y6 = 0) (hy7 : 0 ≤ y7) (hy71 : y7 < 6 ∨ y7 = 0)
    (ho : W1.ownsRow (bt + 1) 68 3 v' (t.legs.length + 1) (legCells t.legs ++ [.int .i64 to, .int .i64 (1 + y6), .int .i64 y7])) (hgr : ((v7.alloc o).alloc o').grownBy W1 lv.ownBlock) (hloc : v'.ownBlock = lv.ownBlock ∨ v'.ownBlock = some (v7.heap.size + 1 + 1)) :
    LegsI w0 b bt N kC g k0 y1 y2 y3 v3 (g' - 1) (kk + 2 + 2) (k3 - 1) up' to (sum + (1 + y6 + y7)) (t.add ⟨to, 1 + y6, y7⟩) v' (W1.setCell ⟨bt, 4, none⟩ v') := by
  have hTB7 := (hI.tb.mid hE6 (by omega) hbt).mid hE7 (by omega) hbt
  have hTBA := (hTB7.later (b1 v7 o)).later (b1 (v7.alloc o) o')
  have hrow : ∀ k, lv.ownBlock = some k → bt + 1 ≤ k := fun k hk => (World.ownsRow.lt hTBA.legs k hk).1
  have hgl := hI.gl
  have hkl := hI.kl
  have hkk := hI.kk
  have hsm := hI.sum
  have hlen : (t.add ⟨to, 1 + y6, y7⟩).legs.length = t.legs.length + 1 := by unfold TrL.add; simp
  have hMA : Mid b (b + 1) v3 ((v7.alloc o).alloc o') := ((((hI.mid.trans hE6).trans hE7).trans (Mid.ofBelow (b1 v7 o) (by have := hD7.lt; omega))).trans (Mid.ofBelow (b1 (v7.alloc o) o') (by have := hD7.lt; rw [World.size_alloc]; omega)))
  exact ⟨hTBA.add (g := ⟨to, 1 + y6, y7⟩) ho hgr (by simpa [World.size_alloc] using hloc), hI.same, by rw [hlen]; omega, by rw [hlen]; omega, Walk.snoc (g := ⟨to, 1 + y6, y7⟩) hI.walk hto ht0 ht1 (by dsimp only; omega) (by dsimp only; omega) (by dsimp only; omega) (by dsimp only; omega), ⟨ht0, ht1⟩, hup, by rw [hlen]; omega,
    (((hD7.later (b1 v7 o)).later (b1 (v7.alloc o) o')).grown hgr (fun j hj => by have := hrow j hj; omega)).set _ hbt _, by rw [hlen]; omega, (hMA.grown hgr (fun j hj => by have := hrow j hj; omega) (by omega)).setNew _ (by show v3.heap.size ≤ bt; omega) (by omega) _,
    (((((hI.room.keep hE6).keep hE7).keep (Mid.ofBelow (lo := 0) (hi := 0) (b1 v7 o) (Nat.zero_le _))).keep (Mid.ofBelow (lo := 0) (hi := 0) (b1 (v7.alloc o) o') (Nat.zero_le _))).grown hgr (fun j hj e => by have := hrow j hj; omega)).set _ _⟩
set_option maxRecDepth 20000 in
set_option maxHeartbeats 8000000 in
theorem line_legs {s1 s2 s3 s4 s5 s6 s14 s15 s16 s17 s18 s19 s20 s21 s22 s23 s24 s25 s26 s27 s28 s29 s30 s31 s32 s33 s34 s35 s36 s37 s38 s39 s40 s41 s42 s43 s44 s45 s46 s47 s48 s49 s50 s51 s52 s53 s54 s55 s56 s57 s58 s59 s60 s61 s62 s63 s64 s65 s66 s67 s68 s69 s70 s71 s72 s73 s74 s75 s76 s77 s78 s79 s80 s81 s82 s83 s84 s85 s86 s87 s88 s89 s90 s91 s92 s93 s94 s95 s96 s97 s98 s99 s100 s101 s102 s103 s104 s105 s106 s107 s108 s109 s110 s111 s112 s113 s114 s115 s116 s117 s118 s119 s120 s121 s122 s123 s124 s125 s126 s127 s128 s129 : Value} (w0 : World) (b bt N kC g k0 : Nat) (y1 y2 y3 y4 : Int) (v3 v5 : World) (K : Act → World → Prop) (Q : Exit → Act → World → Prop)
    (hK : ∀ (u14 u70 u71 u72 u73 u74 u75 u76 u77 u78 u79 u80 u81 u82 u83 u84 u85 u86 u87 u88 u89 u90 u91 u92 u93 u94 u95 u96 u97 u98 u99 u100 u101 u102 u103 u104 u105 u106 u107 u108 u109 u110 c8 c10 c11 c12 c13 : Value) (g' kk k3 : Nat) (up at' sum : Int) (t : TrL) (lv : Value) (W : World), LegsI w0 b bt N kC g k0 y1 y2 y3 v3 g' kk k3 up at' sum t lv W → 0 < t.legs.length → c8 = .int .i64 g' → c12 = .int .i64 sum → K ⟨(.pointer (some ⟨b, 0, none⟩) :: s1 :: s2 :: s3 :: s4 :: s5 :: s6 :: .int .i64 N :: c8 :: .pointer (some ⟨bt, 0, none⟩) :: c10 :: c11 :: c12 :: c13 :: u14 :: s15 :: s16 :: s17 :: s18 :: s19 :: s20 :: s21 :: s22 :: s23 :: s24 :: s25 :: s26 :: s27 :: s28 :: s29 :: s30 :: s31 :: s32 :: s33 :: s34 :: s35 :: s36 :: s37 :: s38 :: s39 :: s40 :: s41 :: s42 :: s43 :: s44 :: s45 :: s46 :: s47 :: s48 :: s49 :: s50 :: s51 :: s52 :: s53 :: s54 :: s55 :: s56 :: s57 :: s58 :: s59 :: s60 :: s61 :: s62 :: s63 :: s64 :: s65 :: s66 :: s67 :: s68 :: s69 :: u70 :: u71 :: u72 :: u73 :: u74 :: u75 :: u76 :: u77 :: u78 :: u79 :: u80 :: u81 :: u82 :: u83 :: u84 :: u85 :: u86 :: u87 :: u88 :: u89 :: u90 :: u91 :: u92 :: u93 :: u94 :: u95 :: u96 :: u97 :: u98 :: u99 :: u100 :: u101 :: u102 :: u103 :: u104 :: u105 :: u106 :: u107 :: u108 :: u109 :: u110 :: s111 :: s112 :: s113 :: s114 :: s115 :: s116 :: s117 :: s118 :: s119 :: s120 :: s121 :: s122 :: s123 :: s124 :: s125 :: s126 :: s127 :: s128 :: s129 :: []).toArray, []⟩ W)
    (hkC : kC ≤ 5000) (hN : 2 ≤ N ∧ N ≤ 5) (hg : 0 < g ∧ g ≤ 9) (hk0 : 1 ≤ k0 ∧ k0 ≤ 4) (hbt : b < bt) (hv3 : bt = v3.heap.size)
    (hI : LegsI w0 b bt N kC g k0 y1 y2 y3 v3 g (kC + 10) k0 y4 y1 y2 ⟨y1, y2, 0, 1 + y3, []⟩ (.slice none 0 0) v5) :
    Code.wp Tryz.prog (Code.loop lineL) (Exit.inBlock 4 (Exit.then K (Exit.inBlock 3 Q))) ⟨(.pointer (some ⟨b, 0, none⟩) :: s1 :: s2 :: s3 :: s4 :: s5 :: s6 :: .int .i64 N :: .int .i64 g :: .pointer (some ⟨bt, 0, none⟩) :: .int .i64 y4 :: .int .i64 y1 :: .int .i64 y2 :: .int .i64 k0 :: s14 :: s15 :: s16 :: s17 :: s18 :: s19 :: s20 :: s21 :: s22 :: s23 :: s24 :: s25 :: s26 :: s27 :: s28 :: s29 :: s30 :: s31 :: s32 :: s33 :: s34 :: s35 :: s36 :: s37 :: s38 :: s39 :: s40 :: s41 :: s42 :: s43 :: s44 :: s45 :: s46 :: s47 :: s48 :: s49 :: s50 :: s51 :: s52 :: s53 :: s54 :: s55 :: s56 :: s57 :: s58 :: s59 :: s60 :: s61 :: s62 :: s63 :: s64 :: s65 :: s66 :: s67 :: s68 :: s69 :: s70 :: s71 :: s72 :: s73 :: s74 :: s75 :: s76 :: s77 :: s78 :: s79 :: s80 :: s81 :: s82 :: s83 :: s84 :: s85 :: s86 :: s87 :: s88 :: s89 :: s90 :: s91 :: s92 :: s93 :: s94 :: s95 :: s96 :: s97 :: s98 :: s99 :: s100 :: s101 :: s102 :: s103 :: s104 :: s105 :: s106 :: s107 :: s108 :: s109 :: s110 :: s111 :: s112 :: s113 :: s114 :: s115 :: s116 :: s117 :: s118 :: s119 :: s120 :: s121 :: s122 :: s123 :: s124 :: s125 :: s126 :: s127 :: s128 :: s129 :: []).toArray, []⟩ v5 := by
  conv => arg 2; arg 1; whnf
  have hK' : Hid _ := hK
  clear hK
  have hv3' : Hid (bt = v3.heap.size) := hv3
  clear hv3
  go_loopw [8, 10, 11, 12, 13] (fun c8 c10 c11 c12 c13 wr => ∃ (g' kk k3 : Nat) (up at' sum : Int) (t : TrL) (lv : Value), c8 = .int .i64 g' ∧ c10 = .int .i64 up ∧ c11 = .int .i64 at' ∧ c12 = .int .i64 sum ∧ c13 = .int .i64 k3 ∧ LegsI w0 b bt N kC g k0 y1 y2 y3 v3 g' kk k3 up at' sum t lv wr) (fun _ _ _ _ c13 _ => (intOf c13).toNat)
  case atStart => exact ⟨g, kC + 10, k0, y4, y1, y2, ⟨y1, y2, 0, 1 + y3, []⟩, _, rfl, rfl, rfl, rfl, rfl, hI⟩
  case round =>
    clear hI
    obtain ⟨g', kk, k3, up, at', sum, t, lv, rfl, rfl, rfl, rfl, rfl, hI⟩ := hrel
    have hTB := hI.tb
    obtain ⟨la, lc, rfl, _⟩ := OwnLegs.legs hTB.legs
    have hgl := hI.gl
    have hkl := hI.kl
    have hkk := hI.kk
    by_cases hk3 : 0 < k3 ∧ 0 < g'
    · have hk31 : (0 : Int) < (k3 : Int) := by omega
      have hk32 : (0 : Int) < (g' : Int) := by omega
      have hat := hI.at_
      have hup := hI.up
      have hsm := hI.sum
      have htl : t.legs.length ≤ 4 := by omega
      have hP6 := pick_any w0 b kk 30 wr (by omega) (by decide) hI.cur
      obtain ⟨i0, ii, iz0, iz1, iz2⟩ := info3 Tryz.infoLeg
      have hbtw : bt < wr.heap.size := ltCell hTB.c0
      have hcase : at' = 0 ∨ (at' ≠ 0 ∧ at' = (N : Int) - 1) ∨ (at' ≠ 0 ∧ at' ≠ (N : Int) - 1 ∧ up = 0) ∨ (at' ≠ 0 ∧ at' ≠ (N : Int) - 1 ∧ up = 1) := by omega
      rcases hcase with rfl | ⟨hn0, rfl⟩ | ⟨hn0, hn1, rfl⟩ | ⟨hn0, hn1, rfl⟩
      all_goals
        have hz1 : ¬ ((0 : Int) = (N : Int) - 1) := by omega
        go_wp2_with (first | (go_at_call 14; with_reducible refine hP6.mono ?_; rintro _ v6 ⟨y6, rfl, hy60, hy61, hD6, hE6⟩; have hP7 := pick_any w0 b (kk + 2) 6 v6 (by omega) (by decide) hD6) | (go_at_call 14; with_reducible refine hP7.mono ?_; rintro _ v7 ⟨y7, rfl, hy70, hy71, hD7, hE7⟩; have hTB7 := (hTB.mid hE6 (by omega) hbt).mid hE7 (by omega) hbt; have hsz7 : bt < v7.heap.size := ltCell hTB7.c0; have m4 := hTB7.c4; have m4' : ∀ o, (v7.alloc o).cell? ⟨bt, 4, none⟩ = some (.slice la t.legs.length lc) := fun o => cellLater (b1 v7 o) m4) | (at_builtin; refine wpList_append_own_at _ rfl _ _ 61 rfl (bt + 1) 68 i0 _ 3 24 Tryz.underlying61 ii iz0 iz1 iz2 rfl (by decide) _ _ _ rfl ((hTB7.later (b1 v7 _)).later (b1 _ _)).legs ⟨v7.heap.size + 1, 0, none⟩ 1 1 _ rfl (by rfl) (legs_lie v7 _ _ _ _) one3 (by unfold maxLen; omega) (by omega) (by simp only [World.size_alloc]; omega) ?_))
        intro v' W1 hown1 hgr1 _ hloc1
        obtain ⟨gn, cn, rfl⟩ := Joins.ownsRow_form hown1 (by omega)
        obtain ⟨m5, z5⟩ := ((hTB7.later (b1 v7 _)).later (b1 _ _)).grown4 hgr1
        clear hP6 hP7 m4 m4'
        go_wp2
        exact ⟨⟨g' - 1, kk + 2 + 2, k3 - 1, _, _, _, _, _, by congr 1; omega, rfl, rfl, rfl, by congr 1; omega, hI.step hv3'.out hbt hE6 hE7 hD7 hk3.2 hk3.1 (by omega) (by omega) (by omega) (by omega) hy60 hy61 hy70 hy71 hown1 hgr1 hloc1⟩, by simp only [intOf]; omega⟩
    · have hlen : 0 < t.legs.length := by omega
      have hcases : (¬ ((0 : Int) < (k3 : Int))) ∨ ((0 : Int) < (k3 : Int) ∧ ¬ ((0 : Int) < (g' : Int))) := by omega
      rcases hcases with hc1 | ⟨hc1, hc2⟩
      all_goals
        go_wp2
        apply hK'.out
        · exact hI
        · exact hlen
        · rfl
        · rfl
end Go.Proofs.YtgdljgjamafpiaaGreatDoor


namespace Go.Proofs.YtgdljgjamafpiaaGreatDoor
open Go.RowKit

theorem lie5 {W : World} {n : Nat} {x y z p q : Value} {t : TypeId} (hn : W.heap.size = n) : ∀ (j : Nat) (u : Value), [x, y, z, p, q][j]? = some u → (W.alloc (.cells #[x, y, z, p, q] t)).cell? ((⟨n, 0, none⟩ : Addr).add j) = some u := by
  subst hn
  exact cells5_lie
noncomputable def lineTrs : Code := ((Tryz.f13.body.bind (loopAtC 8)).getD .skip)
/-- a line in the making, its tracks done -/
structure TrsI (w0 : World) (b bl N k lg : Nat) (tr : List Int) (gp : Int) (vt : Value) (w : World) (g kC : Nat) (L : List TrV) (vT : Value) (W : World) : Prop where
  sum : (L.map fun x => x.1.legs.length).sum + g = lg
  len : L.length ≤ 5
  more : kC ≤ k + 30 + 20 * L.length + 10 * (L.map fun x => x.1.legs.length).sum
  dr : ∀ x ∈ L, DrawnT N x.1
  box : LBox (bl + 1) bl W tr gp L vt vT
  cur : Cur w0 b kC W
  mid : Mid b (b + 1) w W
  room : Room w.heap.size 3 W
theorem TrsI.step {w0 : World} {b bl N k lg : Nat} {tr : List Int} {gp : Int} {vt : Value} {w : World} {g kC : Nat} {L : List TrV} {vT : Value} {wr : World} {bt k0 : Nat} {y1 y2 y3 : Int} {v3 : World} {g' kk k3 : Nat} {up at' sum : Int} {t : TrL} {lv : Value} {W WD W1 : World} {d : Int} {v' : Value} {o : Obj}
    (hT : TrsI w0 b bl N k lg tr gp vt w g kC L vT wr) (hM3 : Mid b (b + 1) wr v3) (hI : LegsI w0 b bt N kC g k0 y1 y2 y3 v3 g' kk k3 up at' sum t lv W) (hv3 : bt = v3.heap.size) (hbl : b < bl) (hblw : w.heap.size < bl) (hbw : b < w.heap.size) (hN : 0 ≤ y1 ∧ y1 < N) (hy2 : 0 ≤ y2 ∧ y2 ≤ 40) (hy3 : 0 ≤ y3 ∧ y3 ≤ 3) (hL5 : L.length < 5) (hl0 : 0 < t.legs.length)
    (hMD : Mid b (b + 1) v3 WD) (hTD : TBox (bt + 1) bt WD { t with due := d } lv) (hCD : Cur w0 b (kk + 2 + 2) WD) (hd : 0 ≤ d ∧ d ≤ 1000)
    (ho : W1.ownsRow (bl + 1) 63 5 v' (L.length + 1) (trCells L ++ [.int .i64 t.frm, .int .i64 t.ready, .int .i64 d, .int .i64 t.weight, lv])) (hgr : (WD.alloc o).grownBy W1 vT.ownBlock) (hloc : v'.ownBlock = vT.ownBlock ∨ v'.ownBlock = some (WD.alloc o).heap.size) :
    TrsI w0 b bl N k lg tr gp vt w g' (kk + 2 + 2) (L ++ [({ t with due := d }, lv)]) v' (W1.setCell ⟨bl, 2, none⟩ v') := by
  have hLB3 := hT.box.mid hM3 hbl
  have hbl3 : bl < v3.heap.size := ltCell hLB3.c0
  have hMA : Mid b (b + 1) v3 (WD.alloc o) := hMD.trans (Mid.ofBelow (b1 WD o) (by have := hCD.lt; omega))
  have hLBA := hLB3.mid hMA hbl
  have hTA := hTD.later (b1 WD o)
  have hgl := hI.gl
  have hsum := hT.sum
  have hkC := hT.more
  have hkk := hI.kk
  have hsame := hI.same
  have hlen : ((L ++ [({ t with due := d }, lv)]).map fun x : TrV => x.1.legs.length).sum = (L.map fun x => x.1.legs.length).sum + t.legs.length := by simp
  have hlen2 : (L ++ [({ t with due := d }, lv)]).length = L.length + 1 := by simp
  have hrow : ∀ j, vT.ownBlock = some j → bl + 1 ≤ j := fun j hj => (hLB3.own.trs.lt (Or.inl hj)).1
  have hMw : Mid b (b + 1) w (WD.alloc o) := (hT.mid.trans hM3).trans hMA
  refine ⟨by rw [hlen]; omega, by rw [hlen2]; omega, by rw [hlen, hlen2]; omega, fun x hx => ?_, hLBA.snoc (t := { t with due := d }) (lv := lv) ho ?_ (fun j hj => ?_) hgr hloc, ?_, ?_, ?_⟩
  · rcases List.mem_append.1 hx with hx | hx
    · exact hT.dr x hx
    · rw [List.mem_singleton] at hx
      subst hx
      exact ⟨by show 0 ≤ t.frm ∧ t.frm < N; omega, by show 0 ≤ t.ready ∧ t.ready ≤ 40; omega, hd, by show 1 ≤ t.weight ∧ t.weight ≤ 4; omega, hl0, ⟨at', by show Walk N t.frm t.legs at'; rw [hsame.1]; exact hI.walk⟩⟩
  · exact Joins.ownsRow_le hTA.legs (by omega)
  · have hj1 := (World.ownsRow.lt hTA.legs j hj).1
    refine ⟨fun e => ?_, fun e => ?_, fun x hx e => ?_⟩
    · have := (hLB3.own.ints.lt j e).2; omega
    · have := (hLB3.own.trs.lt (Or.inl e)).2; omega
    · have := (hLB3.own.trs.lt (Or.inr ⟨x, hx, e⟩)).2; omega
  · exact ((hCD.later (b1 WD o)).grown hgr (fun j hj => by have := hrow j hj; omega)).set _ hbl _
  · exact (hMw.grown hgr (fun j hj => by have := hrow j hj; omega) (by omega)).setNew _ (by show w.heap.size ≤ bl; omega) (by omega) _
  · exact ((((hT.room.keep hM3).keep hMA)).grown hgr (fun j hj e => by have := hrow j hj; omega)).set _ _
set_option maxRecDepth 20000 in
set_option maxHeartbeats 8000000 in
theorem line_trains {s1 s2 s3 s4 s6 s9 s10 s11 s12 s13 s14 s15 s16 s17 s18 s19 s20 s21 s22 s23 s24 s25 s26 s27 s28 s29 s30 s31 s32 s33 s34 s35 s36 s37 s38 s39 s40 s41 s42 s43 s44 s45 s46 s47 s48 s49 s50 s51 s52 s53 s54 s55 s56 s57 s58 s59 s60 s61 s62 s63 s64 s65 s66 s67 s68 s69 s70 s71 s72 s73 s74 s75 s76 s77 s78 s79 s80 s81 s82 s83 s84 s85 s86 s87 s88 s89 s90 s91 s92 s93 s94 s95 s96 s97 s98 s99 s100 s101 s102 s103 s104 s105 s106 s107 s108 s109 s110 s111 s112 s113 s114 s115 s116 s117 s118 s119 s120 s121 s122 s123 s124 s125 s126 s127 s128 s129 : Value} (w0 : World) (b bl N k lg g0 kC0 : Nat) (tr : List Int) (gp : Int) (vt : Value) (w w3 : World) (K : Act → World → Prop) (Q : Exit → Act → World → Prop)
    (hK : ∀ (u9 u10 u11 u12 u13 u14 u44 u45 u46 u47 u48 u49 u50 u51 u52 u53 u54 u55 u56 u57 u58 u59 u60 u61 u62 u63 u64 u65 u66 u67 u68 u69 u70 u71 u72 u73 u74 u75 u76 u77 u78 u79 u80 u81 u82 u83 u84 u85 u86 u87 u88 u89 u90 u91 u92 u93 u94 u95 u96 u97 u98 u99 u100 u101 u102 u103 u104 u105 u106 u107 u108 u109 u110 u111 u112 u113 u114 u115 u116 u117 u118 u119 u120 u121 u122 u123 u124 u125 u126 u127 u128 c8 : Value) (g kC : Nat) (L : List TrV) (vT : Value) (W : World), TrsI w0 b bl N k lg tr gp vt w g kC L vT W → K ⟨(.pointer (some ⟨b, 0, none⟩) :: s1 :: s2 :: s3 :: s4 :: .pointer (some ⟨bl, 0, none⟩) :: s6 :: .int .i64 N :: c8 :: u9 :: u10 :: u11 :: u12 :: u13 :: u14 :: s15 :: s16 :: s17 :: s18 :: s19 :: s20 :: s21 :: s22 :: s23 :: s24 :: s25 :: s26 :: s27 :: s28 :: s29 :: s30 :: s31 :: s32 :: s33 :: s34 :: s35 :: s36 :: s37 :: s38 :: s39 :: s40 :: s41 :: s42 :: s43 :: u44 :: u45 :: u46 :: u47 :: u48 :: u49 :: u50 :: u51 :: u52 :: u53 :: u54 :: u55 :: u56 :: u57 :: u58 :: u59 :: u60 :: u61 :: u62 :: u63 :: u64 :: u65 :: u66 :: u67 :: u68 :: u69 :: u70 :: u71 :: u72 :: u73 :: u74 :: u75 :: u76 :: u77 :: u78 :: u79 :: u80 :: u81 :: u82 :: u83 :: u84 :: u85 :: u86 :: u87 :: u88 :: u89 :: u90 :: u91 :: u92 :: u93 :: u94 :: u95 :: u96 :: u97 :: u98 :: u99 :: u100 :: u101 :: u102 :: u103 :: u104 :: u105 :: u106 :: u107 :: u108 :: u109 :: u110 :: u111 :: u112 :: u113 :: u114 :: u115 :: u116 :: u117 :: u118 :: u119 :: u120 :: u121 :: u122 :: u123 :: u124 :: u125 :: u126 :: u127 :: u128 :: s129 :: []).toArray, []⟩ W)
    (hk : k ≤ 1000) (hN : 2 ≤ N ∧ N ≤ 5) (hlg : lg ≤ 9) (hbl : b < bl) (hblw : w.heap.size < bl) (hbw : b < w.heap.size)
    (hI : TrsI w0 b bl N k lg tr gp vt w g0 kC0 [] (.slice none 0 0) w3) :
    Code.wp Tryz.prog (Code.loop lineTrs) (Exit.inBlock 2 (Exit.then K Q)) ⟨(.pointer (some ⟨b, 0, none⟩) :: s1 :: s2 :: s3 :: s4 :: .pointer (some ⟨bl, 0, none⟩) :: s6 :: .int .i64 N :: .int .i64 g0 :: s9 :: s10 :: s11 :: s12 :: s13 :: s14 :: s15 :: s16 :: s17 :: s18 :: s19 :: s20 :: s21 :: s22 :: s23 :: s24 :: s25 :: s26 :: s27 :: s28 :: s29 :: s30 :: s31 :: s32 :: s33 :: s34 :: s35 :: s36 :: s37 :: s38 :: s39 :: s40 :: s41 :: s42 :: s43 :: s44 :: s45 :: s46 :: s47 :: s48 :: s49 :: s50 :: s51 :: s52 :: s53 :: s54 :: s55 :: s56 :: s57 :: s58 :: s59 :: s60 :: s61 :: s62 :: s63 :: s64 :: s65 :: s66 :: s67 :: s68 :: s69 :: s70 :: s71 :: s72 :: s73 :: s74 :: s75 :: s76 :: s77 :: s78 :: s79 :: s80 :: s81 :: s82 :: s83 :: s84 :: s85 :: s86 :: s87 :: s88 :: s89 :: s90 :: s91 :: s92 :: s93 :: s94 :: s95 :: s96 :: s97 :: s98 :: s99 :: s100 :: s101 :: s102 :: s103 :: s104 :: s105 :: s106 :: s107 :: s108 :: s109 :: s110 :: s111 :: s112 :: s113 :: s114 :: s115 :: s116 :: s117 :: s118 :: s119 :: s120 :: s121 :: s122 :: s123 :: s124 :: s125 :: s126 :: s127 :: s128 :: s129 :: []).toArray, []⟩ w3 := by
  conv => arg 2; arg 1; whnf
  have hK' : Hid _ := hK
  clear hK
  go_loopw [8] (fun c8 wr => ∃ (g kC : Nat) (L : List TrV) (vT : Value), c8 = .int .i64 g ∧ TrsI w0 b bl N k lg tr gp vt w g kC L vT wr) (fun c8 _ => (intOf c8).toNat)
  case atStart => exact ⟨g0, kC0, [], _, rfl, hI⟩
  case round =>
    clear hI
    obtain ⟨g, kC, L, vT, rfl, hT⟩ := hrel
    have hsum := hT.sum
    have hkC := hT.more
    have hL5 := hT.len
    obtain ⟨aT, cT, rfl, _⟩ := hT.box.own.trs.trains (fun x hx => by
      have h1 : x.1.legs.length ≤ (L.map fun x => x.1.legs.length).sum := le_sum (List.mem_map.2 ⟨x, hx, rfl⟩)
      unfold maxLen; omega)
    have q2 := hT.box.c2
    by_cases hg : 0 < g ∧ L.length < 5
    · have hg1 : (0 : Int) < (g : Int) := by omega
      have hg2 : (L.length : Int) < 5 := by omega
      have hP1 := pick_any w0 b kC N wr (by omega) (by omega) hT.cur
      go_wp2_with (first | (go_at_call 14; with_reducible refine hP1.mono ?_; rintro _ v1 ⟨y1, rfl, hy10, hy11, hD1, hE1⟩; have hP2 := pick_any w0 b (kC + 2) 40 v1 (by omega) (by decide) hD1) | (go_at_call 14; with_reducible refine hP2.mono ?_; rintro _ v2 ⟨y2, rfl, hy20, hy21, hD2, hE2⟩; have hP3 := pick_any w0 b (kC + 2 + 2) 4 v2 (by omega) (by decide) hD2) | (go_at_call 14; with_reducible refine hP3.mono ?_; rintro _ v3 ⟨y3, rfl, hy30, hy31, hD3, hE3⟩))
      have hM3 := (hE1.trans hE2).trans hE3
      have hA3 := b1 v3 (.cells #[.int .i64 y1, .int .i64 y2, .int .i64 0, .int .i64 (1 + y3), .slice none 0 0] 63)
      have hTB3 : TBox (v3.heap.size + 1) v3.heap.size (v3.alloc (.cells #[.int .i64 y1, .int .i64 y2, .int .i64 0, .int .i64 (1 + y3), .slice none 0 0] 63)) ⟨y1, y2, 0, 1 + y3, []⟩ (.slice none 0 0) := by
        refine ⟨?_, ?_, ?_, ?_, ?_, ?_, World.ownsRow_nil _ _ _ _, by simp [Value.ownBlock]⟩
        all_goals simp
      have hb3 : b < v3.heap.size := hD3.lt
      have hMA3 : Mid b (b + 1) v3 (v3.alloc (.cells #[.int .i64 y1, .int .i64 y2, .int .i64 0, .int .i64 (1 + y3), .slice none 0 0] 63)) := Mid.ofBelow hA3 (by omega)
      have hRm3 : Room v3.heap.size 5 (v3.alloc (.cells #[.int .i64 y1, .int .i64 y2, .int .i64 0, .int .i64 (1 + y3), .slice none 0 0] 63)) := Room.lit v3 _ _ 5 (by simp)
      refine (pick_any w0 b (kC + 2 + 2 + 2) 2 _ (by omega) (by decide) (hD3.later hA3)).mono ?_
      rintro _ v4 ⟨y4, rfl, hy40, hy41, hD4, hE4⟩
      have hTB4 := hTB3.mid hE4 (by omega) (by omega)
      have hRm4 := hRm3.keep hE4
      have t0 := hTB4.c0
      have t1 := hTB4.c1
      dsimp only at t0 t1
      have hP5 := pick_any w0 b (kC + 2 + 2 + 2 + 2) 4 v4 (by omega) (by decide) hD4
      obtain ⟨bt, hbt0⟩ : ∃ bt, bt = v3.heap.size := ⟨_, rfl⟩
      rw [← hbt0] at hTB4 hRm4 hb3 t0 t1 ⊢
      have hbt : Hid (bt = v3.heap.size) := hbt0
      have hMv4 := hMA3.trans hE4
      clear hbt0 hTB3 hP1 hP2 hP3 hD1 hD2 hD3 hE1 hE2 hE3 hA3 hMA3 hE4 hRm3 q2
      go_wp2_with (go_at_call 14; with_reducible refine hP5.mono ?_; rintro _ v5 ⟨y5, rfl, hy50, hy51, hD5, hE5⟩)
      have hTB5 := hTB4.mid hE5 (by omega) hb3
      have hRm5 := hRm4.keep hE5
      have hMv5 := hMv4.trans hE5
      obtain ⟨k0, hk0⟩ : ∃ k0 : Nat, 1 + y5 = (k0 : Int) := ⟨(1 + y5).toNat, by omega⟩
      have hk04 : 1 ≤ k0 ∧ k0 ≤ 4 := by omega
      have hy1N : 0 ≤ y1 ∧ y1 < N := by omega
      clear hP5 hTB4 hD4 hE5 hMv4 t0 t1
      rw [hk0]
      rename_i Kz az
      refine line_legs w0 b bt N kC g k0 y1 y2 y3 y4 v3 v5 Kz _ ?_ (by omega) hN (by omega) hk04 hb3 hbt.out ⟨hTB5, ⟨rfl, rfl, rfl⟩, by simp, by simp, Walk.nil, hy1N, by omega, by dsimp only [List.length_nil]; omega, hD5, by dsimp only [List.length_nil]; omega, hMv5, hRm5⟩
      intro u14 u70 u71 u72 u73 u74 u75 u76 u77 u78 u79 u80 u81 u82 u83 u84 u85 u86 u87 u88 u89 u90 u91 u92 u93 u94 u95 u96 u97 u98 u99 u100 u101 u102 u103 u104 u105 u106 u107 u108 u109 u110 c8 c10 c11 c12 c13 g' kk k3 up at' sum t lv W hI hlen e8 e12
      subst e8
      subst e12
      have hsm := hI.sum
      have hgl := hI.gl
      have hkl := hI.kl
      have hkk := hI.kk
      obtain ⟨la, lc, rfl, _⟩ := OwnLegs.legs hI.tb.legs
      have hLB3 := hT.box.mid hM3 hbl
      have hbl3 : bl < v3.heap.size := ltCell hLB3.c0
      obtain ⟨i0, ii, iz0, iz1, iz2⟩ := info3 Tryz.infoTrain
      have hP8 := pick_any w0 b kk 20 W (by omega) (by decide) hI.cur
      refine az _ _ ?_
      clear az hRm5 hMv5 hTB5 hD5
      go_wp2_with (go_at_call 14; with_reducible refine hP8.mono ?_; rintro _ v8 ⟨y8, rfl, hy80, hy81, hD8, hE8⟩)
      refine (pick_any w0 b (kk + 2) 8 v8 (by omega) (by decide) hD8).mono ?_
      rintro _ v9 ⟨y9, rfl, hy90, hy91, hD9, hE9⟩
      have hTB9 := (hI.tb.mid hE8 (by omega) hb3).mid hE9 (by omega) hb3
      have hMv9 := (hI.mid.trans hE8).trans hE9
      obtain ⟨_, _, z2⟩ := ((hI.room.keep hE8).keep hE9) 2 (by omega)
      have t2 := hTB9.c2
      have e2 := (hTB9.due (sum + y8 - y9)).c2
      have hv3b : v3.heap.size ≤ bt ∧ b ≤ v3.heap.size := by have := hbt.out; omega
      have hblt : bl + 1 ≤ v9.heap.size := by have := ltCell t2; dsimp only at this; omega
      by_cases hd : sum + y8 - y9 < 0
      · have hTD := (hTB9.due (sum + y8 - y9)).due 0
        have hMD := (hMv9.setNew ⟨bt, 2, none⟩ hv3b.1 hv3b.2 (.int .i64 (sum + y8 - y9))).setNew ⟨bt, 2, none⟩ hv3b.1 hv3b.2 (.int .i64 0)
        have hCD := (hD9.set ⟨bt, 2, none⟩ hb3 (.int .i64 (sum + y8 - y9))).set ⟨bt, 2, none⟩ hb3 (.int .i64 0)
        have hLD := hLB3.mid hMD hbl
        have f0 := hTD.c0
        have f1 := hTD.c1
        have f2 := hTD.c2
        have f3 := hTD.c3
        have f4 := hTD.c4
        have q2 := hLD.c2
        dsimp only at f0 f1 f2 f3 t2 e2
        go_wp2_with (at_builtin; refine wpList_append_own_at _ rfl _ _ 24 rfl (bl + 1) 63 i0 _ 5 56 Tryz.underlying24 ii iz0 iz1 iz2 rfl (by decide) _ _ _ rfl (hLD.later (b1 _ _)).own.trs.row ⟨v9.heap.size, 0, none⟩ 1 1 [.int .i64 t.frm, .int .i64 t.ready, .int .i64 0, .int .i64 t.weight, .slice la t.legs.length lc] rfl rfl (lie5 (by simp only [World.size_setCell])) (TrV_one (t := { t with due := 0 })) (by unfold maxLen; omega) (by omega) (by simp only [World.size_alloc, World.size_setCell]; omega) ?_)
        intro v' W1 hown1 hgr1 _ hloc1
        obtain ⟨gn, cn, rfl⟩ := Joins.ownsRow_form hown1 (by omega)
        obtain ⟨m2, z2'⟩ := (hLD.later (b1 _ _)).grown2 hgr1
        clear f0 f1 f2 f3 f4 q2 t2 e2 z2
        go_wp2
        go_roundw
        case rel => exact ⟨g', kk + 2 + 2, _, _, rfl, hT.step hM3 hI hbt.out hbl hblw hbw hy1N (by omega) (by omega) (by omega) hlen hMD hTD hCD ⟨Int.le_refl _, by decide⟩ hown1 hgr1 (by simpa using hloc1)⟩
        case measure => simp only [intOf]; omega
      · have hTD := hTB9.due (sum + y8 - y9)
        have hMD := hMv9.setNew ⟨bt, 2, none⟩ hv3b.1 hv3b.2 (.int .i64 (sum + y8 - y9))
        have hCD := hD9.set ⟨bt, 2, none⟩ hb3 (.int .i64 (sum + y8 - y9))
        have hLD := hLB3.mid hMD hbl
        have f0 := hTD.c0
        have f1 := hTD.c1
        have f2 := hTD.c2
        have f3 := hTD.c3
        have f4 := hTD.c4
        have q2 := hLD.c2
        dsimp only at f0 f1 f2 f3 t2 e2
        go_wp2_with (at_builtin; refine wpList_append_own_at _ rfl _ _ 24 rfl (bl + 1) 63 i0 _ 5 56 Tryz.underlying24 ii iz0 iz1 iz2 rfl (by decide) _ _ _ rfl (hLD.later (b1 _ _)).own.trs.row ⟨v9.heap.size, 0, none⟩ 1 1 [.int .i64 t.frm, .int .i64 t.ready, .int .i64 (sum + y8 - y9), .int .i64 t.weight, .slice la t.legs.length lc] rfl rfl (lie5 (by simp only [World.size_setCell])) (TrV_one (t := { t with due := (sum + y8 - y9) })) (by unfold maxLen; omega) (by omega) (by simp only [World.size_alloc, World.size_setCell]; omega) ?_)
        intro v' W1 hown1 hgr1 _ hloc1
        obtain ⟨gn, cn, rfl⟩ := Joins.ownsRow_form hown1 (by omega)
        obtain ⟨m2, z2'⟩ := (hLD.later (b1 _ _)).grown2 hgr1
        clear f0 f1 f2 f3 f4 q2 t2 e2 z2
        go_wp2
        go_roundw
        case rel => exact ⟨g', kk + 2 + 2, _, _, rfl, hT.step hM3 hI hbt.out hbl hblw hbw hy1N (by omega) (by omega) (by omega) hlen hMD hTD hCD (by omega) hown1 hgr1 (by simpa using hloc1)⟩
        case measure => simp only [intOf]; omega
    · have hcases : (¬ ((0 : Int) < (g : Int))) ∨ ((0 : Int) < (g : Int) ∧ ¬ ((L.length : Int) < 5)) := by omega
      rcases hcases with hg1 | ⟨hg1, hg2⟩
      all_goals
        go_wp2
        apply hK'.out
        exact hT
end Go.Proofs.YtgdljgjamafpiaaGreatDoor


namespace Go.Proofs.YtgdljgjamafpiaaGreatDoor
open Go.RowKit

theorem LBox.track {B0 bl : Nat} {W W1 : World} {tr : List Int} {gap z : Int} {vt v' : Value} (h : LBox B0 bl W tr gap [] vt (.slice none 0 0)) (ho : W1.ownsRow B0 3 1 v' (tr.length + 1) (intCells tr ++ [.int .i64 z])) (hg : W.grownBy W1 vt.ownBlock) : LBox B0 bl (W1.setCell ⟨bl, 0, none⟩ v') (tr ++ [z]) gap [] v' (.slice none 0 0) := by
  have hlt := h.lt
  have hlb := ltCell h.c0
  dsimp only at hlb
  have hb : W1.heap[bl]? = W.heap[bl]? := hg.block bl hlb (fun e => by have := (h.own.ints.lt bl e.symm).1; omega)
  have cc : ∀ o u, W.cell? ⟨bl, o, none⟩ = some u → W1.cell? ⟨bl, o, none⟩ = some u := fun o u hu => (World.cell?_of_block (w := W) (w' := W1) (a := ⟨bl, o, none⟩) hb).trans hu
  have zz : ∀ o, W.frozen? ⟨bl, o, none⟩ = false → W1.frozen? ⟨bl, o, none⟩ = false := fun o hu => (World.frozen?_of_block (w := W) (w' := W1) (a := ⟨bl, o, none⟩) hb).trans hu
  refine ⟨World.cell?_setCell_same _ _ _ (cc 0 _ h.c0), (cell_set_ne (by omega)).trans (cc 1 _ h.c1), (cell_set_ne (by omega)).trans (cc 2 _ h.c2), (World.frozen?_setCell ..).trans (zz 0 h.z0), (World.frozen?_setCell ..).trans (zz 1 h.z1), (World.frozen?_setCell ..).trans (zz 2 h.z2), hlt, ⟨?_, OwnT.nil _ _, fun k _ e => by simp [Value.ownBlock] at e, fun x hx => absurd hx List.not_mem_nil⟩⟩
  rw [intCells_snoc, List.length_append]
  exact ownsRow_setCell_below ho hlt _

/-- what a draw of a line answers -/
def DrawPost (w0 : World) (b k : Nat) (w : World) (e : Ending) (w' : World) : Prop := ∃ l : LnL, DrawnL l ∧ (∃ L at_ ct aT cT, l.trains = L.map Prod.fst ∧ e = .returned (.agg #[.slice at_ l.tracks.length ct, .int .i64 l.gap, .slice aT L.length cT]) ∧ LOwn w.heap.size w' l.tracks L (.slice at_ l.tracks.length ct) (.slice aT L.length cT)) ∧ Cur w0 b (k + 1000) w' ∧ Mid b (b + 1) w w'
set_option maxRecDepth 20000 in
set_option maxHeartbeats 8000000 in
theorem drawLine_any (w0 : World) (b k : Nat) (most : Int) (w : World) (hk : k ≤ 1000) (hm0 : 2 ≤ most) (hm1 : most ≤ 9) (hC : Cur w0 b k w) :
    Calls Tryz.prog 13 #[.pointer (some ⟨b, 0, none⟩), .int .i64 most] w (DrawPost w0 b k w) := by
  have hblt : b < w.heap.size := hC.lt
  have hA := b1 w (.cells #[.slice none 0 0, .int .i64 0, .slice none 0 0] 26)
  have hroom : Room w.heap.size 3 (w.alloc (.cells #[.slice none 0 0, .int .i64 0, .slice none 0 0] 26)) := Room.lit _ _ _ 3 (by simp)
  have hMA : Mid b (b + 1) w (w.alloc (.cells #[.slice none 0 0, .int .i64 0, .slice none 0 0] 26)) := Mid.ofBelow hA (by omega)
  have hP1 := pick_any w0 b k 5 _ (by omega) (by decide) (hC.later hA)
  have hsA : (w.alloc (.cells #[.slice none 0 0, .int .i64 0, .slice none 0 0] 26)).heap.size = w.heap.size + 1 := by simp
  go_enter Tryz.func13, Tryz.ntmps13
  go_wp2_with (go_at_call 14; with_reducible refine hP1.mono ?_; rintro _ w1 ⟨gp, rfl, hg0, hg1, hC1, hM1⟩)
  have hs1 := hM1.below.size
  have hroom1 := hroom.keep hM1
  have hN1 := b1 w1 (.cells #[.slice none 0 0, .int .i64 gp, .slice none 0 0] 26)
  have hP2 := pick_any w0 b (k + 2) 4 _ (by omega) (by decide) (hC1.later hN1)
  refine hP2.mono ?_
  rintro _ w2 ⟨x2, rfl, hx0, hx1, hC2, hM2⟩
  have hN := hx1
  have hs2 := hM2.below.size
  have hLB : LBox (w1.heap.size + 1) w1.heap.size (w1.alloc (.cells #[.slice none 0 0, .int .i64 gp, .slice none 0 0] 26)) [] gp [] (.slice none 0 0) (.slice none 0 0) := by
    refine ⟨?_, ?_, ?_, ?_, ?_, ?_, by omega, ⟨World.ownsRow_nil _ _ _ _, OwnT.nil _ _, fun k e => by simp [Value.ownBlock] at e, fun x hx => absurd hx List.not_mem_nil⟩⟩
    all_goals simp
  have hsN : (w1.alloc (.cells #[.slice none 0 0, .int .i64 gp, .slice none 0 0] 26)).heap.size = w1.heap.size + 1 := by simp
  have hb1 : b < w1.heap.size := by omega
  have hLB2 := hLB.mid hM2 hb1
  have hMd2 : Mid b (b + 1) w w2 := ((hMA.trans hM1).trans (Mid.ofBelow hN1 (by omega))).trans hM2
  have hroom2 := (hroom1.keep (Mid.ofBelow (lo := 0) (hi := 0) hN1 (Nat.zero_le _))).keep hM2
  obtain ⟨N, hN0⟩ : ∃ N : Nat, 2 + x2 = (N : Int) := ⟨(2 + x2).toNat, by omega⟩
  have hN1' : 2 ≤ N ∧ N ≤ 5 := by omega
  obtain ⟨bl, hbl0⟩ : ∃ bl, bl = w1.heap.size := ⟨_, rfl⟩
  rw [← hbl0] at hLB2 ⊢
  have hblb : b < bl := by omega
  have hblw : w.heap.size < bl := by omega
  clear hbl0 hLB hC1 hM1 hN1 hP1 hP2 hroom hroom1 hMA hA hsA hs1 hs2 hM2 hC hsN hb1
  go_wp2
  go_loopw [6] (fun cc wr => ∃ (c kk : Nat) (tr : List Int) (vt : Value), cc = .int .i64 c ∧ tr.length + c = N ∧ kk ≤ k + 4 + 4 * tr.length ∧ (∀ z ∈ tr, 1 ≤ z ∧ z ≤ 3) ∧ LBox (bl + 1) bl wr tr gp [] vt (.slice none 0 0) ∧ Cur w0 b kk wr ∧ Mid b (b + 1) w wr ∧ Room w.heap.size 3 wr) (fun cc _ => (intOf cc).toNat)
  case atStart => exact ⟨N, k + 4, [], _, rfl, by simp, by simp, fun z hz => absurd hz List.not_mem_nil, hLB2, hC2.more (by omega), hMd2, hroom2⟩
  case round =>
    obtain ⟨c, kk, tr, vt, rfl, htc, hkk, htr, hLBr, hCr, hMr, hroomr⟩ := hrel
    by_cases hc : 0 < c
    · have hc' : (0 : Int) < (c : Int) := by omega
      obtain ⟨at_, ct, rfl, _⟩ := ownInts hLBr.own.ints
      obtain ⟨i0, ii, iz0, iz1, iz2⟩ := info3 Tryz.infoInt
      have hbd : Below wr.heap.size wr wr.drew := (Below.refl _ wr).drew
      have hLBd := hLBr.later hbd
      have q0 := hLBr.c0
      have hK1 := pick_any w0 b kk 3 wr.drew (by omega) (by decide) (hCr.later hbd)
      go_wp2
      refine wp_region_held_drew (S := (fun _ => True)) (by kernel_rfl) trivial (fun hHeld => ?_)
      refine wpAnyH_take (i := 0) (oi := { dst := some 25, op := Go.Op.fieldAddr 26 (Go.Operand.tmp 5) 0, type := 0, pos := "l5_draw.go:51", after := #[], guard := none }) (v := ?vv1_0) rfl (by kernel_rfl) (by kernel_rfl) (by kernel_rfl) (fun _ _ _ h => h) (Or.inl ⟨by rfl, ?hy1_0⟩) (by assumption) ?rest1_0
      case hy1_0 =>
        intro w hSw
        (try dsimp only at hSw)
        go_simp
        (try with_reducible rfl)
      simp only [Act.put, List.setIfInBounds_toArray, List.set_cons_zero, List.set_cons_succ]
      refine wpAnyH_take (i := 2) (oi := { dst := some 27, op := Go.Op.move (Go.Operand.tmp 0), type := 46, pos := "l5_draw.go:51", after := #[], guard := none }) (v := ?vv2_2) rfl (by kernel_rfl) (by kernel_rfl) (by kernel_rfl) (fun _ _ _ h => h) (Or.inl ⟨by rfl, ?hy2_2⟩) (by assumption) ?rest2_2
      case hy2_2 =>
        intro w hSw
        (try dsimp only at hSw)
        go_simp
        (try with_reducible rfl)
      simp only [Act.put, List.setIfInBounds_toArray, List.set_cons_zero, List.set_cons_succ]
      refine wpAnyH_take (i := 4) (oi := { dst := some 29, op := Go.Op.move (Go.Operand.tmp 0), type := 46, pos := "l5_draw.go:51", after := #[], guard := none }) (v := ?vv3_4) rfl (by kernel_rfl) (by kernel_rfl) (by kernel_rfl) (fun _ _ _ h => h) (Or.inl ⟨by rfl, ?hy3_4⟩) (by assumption) ?rest3_4
      case hy3_4 =>
        intro w hSw
        (try dsimp only at hSw)
        go_simp
        (try with_reducible rfl)
      simp only [Act.put, List.setIfInBounds_toArray, List.set_cons_zero, List.set_cons_succ]
      refine wpAnyH_ready (rs := [1, 3]) (by kernel_rfl) (by simp) ?_
      refine AllReadyH.cons (o := { dst := some 26, op := Go.Op.load 23 (Go.Operand.tmp 25), type := 23, pos := "l5_draw.go:51", after := #[{ on := 0, ground := Go.Ground.data }], guard := none }) rfl (fun K hK => ?_) (AllReadyH.cons (o := { dst := some 28, op := Go.Op.call { callee := Go.Callee.value (Go.Operand.func 14), args := #[Go.Operand.tmp 27, Go.Operand.const (Go.Value.int Go.IntKind.i64 3)], argTypes := #[46, 3] }, type := 3, pos := "l5_draw.go:51", after := #[{ on := 2, ground := Go.Ground.data }], guard := none }) rfl (fun K hK => ?_) AllReadyH.nil)
      go_simp
      refine hK.out _ _ trivial (fun hHeld => ?_)
      clear hK K
      (try simp only [Act.put, List.setIfInBounds_toArray, List.set_cons_zero, List.set_cons_succ])
      refine wpAnyH_ready (rs := [3]) (by kernel_rfl) (by simp) ?_
      refine AllReadyH.cons (o := { dst := some 28, op := Go.Op.call { callee := Go.Callee.value (Go.Operand.func 14), args := #[Go.Operand.tmp 27, Go.Operand.const (Go.Value.int Go.IntKind.i64 3)], argTypes := #[46, 3] }, type := 3, pos := "l5_draw.go:51", after := #[{ on := 2, ground := Go.Ground.data }], guard := none }) rfl (fun K hK => ?_) AllReadyH.nil
      go_simp
      refine hK1.mono ?_
      rintro _ w3 ⟨x, rfl, hx30, hx31, hC3, hM3⟩
      have hLB3 := hLBd.mid hM3 hblb
      have q3 := hLB3.c0
      have hK2 := pick_any w0 b (kk + 2) 2 w3 (by omega) (by decide) hC3
      refine hK.out _ _ trivial (fun hHeld => ?_)
      clear hK K
      (try simp only [Act.put, List.setIfInBounds_toArray, List.set_cons_zero, List.set_cons_succ])
      refine wpAnyH_ready (rs := [5]) (by kernel_rfl) (by simp) ?_
      refine AllReadyH.cons (o := { dst := some 30, op := Go.Op.call { callee := Go.Callee.value (Go.Operand.func 14), args := #[Go.Operand.tmp 29, Go.Operand.const (Go.Value.int Go.IntKind.i64 2)], argTypes := #[46, 3] }, type := 3, pos := "l5_draw.go:51", after := #[{ on := 4, ground := Go.Ground.data }, { on := 3, ground := Go.Ground.chain }], guard := none }) rfl (fun K hK => ?_) AllReadyH.nil
      go_simp
      refine hK2.mono ?_
      rintro _ w4 ⟨y, rfl, hy0, hy1, hC4, hM4⟩
      have hLB4 := hLB3.mid hM4 hblb
      have q4 := hLB4.c0
      have hxy0 : 0 ≤ x * y := Int.mul_nonneg hx30 hy0
      have hxy1 : x * y ≤ 2 := by
        rcases hy1 with hy1 | rfl
        · have : y = 0 ∨ y = 1 := by omega
          rcases this with rfl | rfl <;> omega
        · omega
      have hwp : IntKind.i64.wrap (x * y) = x * y := by rw [IntKind.wrap_i64]; omega
      have hwq : IntKind.i64.wrap (1 + x * y) = 1 + x * y := by rw [IntKind.wrap_i64]; omega
      have hA9 := b1 w4 (.cells #[.int .i64 (1 + x * y)] 3)
      have hLBA := hLB4.later hA9
      have q4' := hLBA.c0
      have hsz4 := ltCell hLB4.c0
      dsimp only at hsz4
      obtain ⟨v', W1, hap, hown1, hgr1, _, hloc1⟩ := run_append_own_at (P := Tryz.prog) (w4.alloc (.cells #[.int .i64 (1 + x * y)] 3)) (bl + 1) 23 23 3 i0 _ 1 8 Tryz.underlying23 ii iz0 iz1 iz2 rfl (by decide) (.slice at_ tr.length ct) tr.length (intCells tr) hLBA.own.ints ⟨w4.heap.size, 0, none⟩ 1 1 [.int .i64 (1 + x * y)] rfl cells1_lie one1 (by unfold maxLen; omega) (by omega) (by simp only [World.size_alloc]; omega)
      have hap' : Hid _ := hap
      obtain ⟨gn, cn, rfl⟩ := Joins.ownsRow_form hown1 (by omega)
      have hbk : W1.heap[bl]? = _ := hgr1.block bl (ltCell hLBA.c0) (fun e => by have := (hLBA.own.ints.lt bl e.symm).1; omega)
      have m3 := (World.cell?_of_block (w' := W1) (a := ⟨bl, 0, none⟩) hbk).trans hLBA.c0
      have mz := (World.frozen?_of_block (w' := W1) (a := ⟨bl, 0, none⟩) hbk).trans hLBA.z0
      clear hap hbk
      refine hK.out _ _ trivial (fun hHeld => ?_)
      clear hK K
      (try simp only [Act.put, List.setIfInBounds_toArray, List.set_cons_zero, List.set_cons_succ])
      refine wpAnyH_take (i := 6) (oi := { dst := some 31, op := Go.Op.binOp Go.BinOp.mul 3 (Go.Operand.tmp 28) (Go.Operand.tmp 30) 3, type := 3, pos := "l5_draw.go:51", after := #[{ on := 3, ground := Go.Ground.data }, { on := 5, ground := Go.Ground.data }], guard := none }) (v := ?vv4_6) rfl (by kernel_rfl) (by kernel_rfl) (by kernel_rfl) (fun _ _ _ h => h) (Or.inl ⟨by rfl, ?hy4_6⟩) (by assumption) ?rest4_6
      case hy4_6 =>
        intro w hSw
        (try dsimp only at hSw)
        go_simp
        (try with_reducible rfl)
      simp only [Act.put, List.setIfInBounds_toArray, List.set_cons_zero, List.set_cons_succ]
      refine wpAnyH_take (i := 7) (oi := { dst := some 32, op := Go.Op.binOp Go.BinOp.add 3 (Go.Operand.const (Go.Value.int Go.IntKind.i64 1)) (Go.Operand.tmp 31) 3, type := 3, pos := "l5_draw.go:51", after := #[{ on := 6, ground := Go.Ground.data }], guard := none }) (v := ?vv5_7) rfl (by kernel_rfl) (by kernel_rfl) (by kernel_rfl) (fun _ _ _ h => h) (Or.inl ⟨by rfl, ?hy5_7⟩) (by assumption) ?rest5_7
      case hy5_7 =>
        intro w hSw
        (try dsimp only at hSw)
        go_simp
        (try with_reducible rfl)
      simp only [Act.put, List.setIfInBounds_toArray, List.set_cons_zero, List.set_cons_succ]
      refine wpAnyH_ready (rs := [8]) (by kernel_rfl) (by simp) ?_
      refine AllReadyH.cons (o := { dst := some 33, op := Go.Op.buildSlice 23 1 #[(0, Go.Operand.tmp 32)], type := 23, pos := "l5_draw.go:51", after := #[{ on := 7, ground := Go.Ground.data }], guard := none }) rfl (fun K hK => ?_) AllReadyH.nil
      go_simp
      refine hK.out _ _ trivial (fun hHeld => ?_)
      clear hK K
      (try simp only [Act.put, List.setIfInBounds_toArray, List.set_cons_zero, List.set_cons_succ])
      refine wpAnyH_ready (rs := [9]) (by kernel_rfl) (by simp) ?_
      refine AllReadyH.cons (o := { dst := some 34, op := Go.Op.call { callee := Go.Callee.builtin Go.Builtin.append, args := #[Go.Operand.tmp 26, Go.Operand.tmp 33], argTypes := #[23, 23] }, type := 23, pos := "l5_draw.go:51", after := #[{ on := 1, ground := Go.Ground.data }, { on := 8, ground := Go.Ground.data }, { on := 5, ground := Go.Ground.chain }], guard := none }) rfl (fun K hK => ?_) AllReadyH.nil
      refine step_append_eq _ (by rfl) _ _ _ (by rfl) _ _ _ _ (by rfl) (by rfl) hap'.out ?_
      refine hK.out _ _ trivial (fun hHeld => ?_)
      clear hK K
      (try simp only [Act.put, List.setIfInBounds_toArray, List.set_cons_zero, List.set_cons_succ])
      refine wpAnyH_take (i := 10) (oi := { dst := some 35, op := Go.Op.fieldAddr 26 (Go.Operand.tmp 5) 0, type := 0, pos := "l5_draw.go:51", after := #[{ on := 0, ground := Go.Ground.phase }, { on := 1, ground := Go.Ground.phase }, { on := 2, ground := Go.Ground.phase }, { on := 3, ground := Go.Ground.phase }, { on := 4, ground := Go.Ground.phase }, { on := 5, ground := Go.Ground.phase }, { on := 6, ground := Go.Ground.phase }, { on := 7, ground := Go.Ground.phase }, { on := 8, ground := Go.Ground.phase }, { on := 9, ground := Go.Ground.phase }], guard := none }) (v := ?vv6_10) rfl (by kernel_rfl) (by kernel_rfl) (by kernel_rfl) (fun _ _ _ h => h) (Or.inl ⟨by rfl, ?hy6_10⟩) (by assumption) ?rest6_10
      case hy6_10 =>
        intro w hSw
        (try dsimp only at hSw)
        go_simp
        (try with_reducible rfl)
      simp only [Act.put, List.setIfInBounds_toArray, List.set_cons_zero, List.set_cons_succ]
      refine wpAnyH_ready (rs := [11]) (by kernel_rfl) (by simp) ?_
      refine AllReadyH.cons (o := { dst := none, op := Go.Op.store 23 (Go.Operand.tmp 35) (Go.Operand.tmp 34), type := 0, pos := "l5_draw.go:51", after := #[{ on := 10, ground := Go.Ground.data }, { on := 9, ground := Go.Ground.data }, { on := 9, ground := Go.Ground.chain }, { on := 0, ground := Go.Ground.phase }, { on := 1, ground := Go.Ground.phase }, { on := 2, ground := Go.Ground.phase }, { on := 3, ground := Go.Ground.phase }, { on := 4, ground := Go.Ground.phase }, { on := 5, ground := Go.Ground.phase }, { on := 6, ground := Go.Ground.phase }, { on := 7, ground := Go.Ground.phase }, { on := 8, ground := Go.Ground.phase }, { on := 9, ground := Go.Ground.phase }], guard := none }) rfl (fun K hK => ?_) AllReadyH.nil
      go_simp
      refine hK.out _ _ trivial (fun hHeld => ?_)
      clear hK K
      (try simp only [Act.put, List.setIfInBounds_toArray, List.set_cons_zero, List.set_cons_succ])
      refine wpAnyH_done (by kernel_rfl) ?_ _
      rotate_left
      go_simp
      refine hK1.mono ?_
      rintro _ w3 ⟨x, rfl, hx30, hx31, hC3, hM3⟩
      have hLB3 := hLBd.mid hM3 hblb
      have q3 := hLB3.c0
      have hK2 := pick_any w0 b (kk + 2) 2 w3 (by omega) (by decide) hC3
      refine hK.out _ _ trivial (fun hHeld => ?_)
      clear hK K
      (try simp only [Act.put, List.setIfInBounds_toArray, List.set_cons_zero, List.set_cons_succ])
      refine wpAnyH_ready (rs := [1, 5]) (by kernel_rfl) (by simp) ?_
      refine AllReadyH.cons (o := { dst := some 26, op := Go.Op.load 23 (Go.Operand.tmp 25), type := 23, pos := "l5_draw.go:51", after := #[{ on := 0, ground := Go.Ground.data }], guard := none }) rfl (fun K hK => ?_) (AllReadyH.cons (o := { dst := some 30, op := Go.Op.call { callee := Go.Callee.value (Go.Operand.func 14), args := #[Go.Operand.tmp 29, Go.Operand.const (Go.Value.int Go.IntKind.i64 2)], argTypes := #[46, 3] }, type := 3, pos := "l5_draw.go:51", after := #[{ on := 4, ground := Go.Ground.data }, { on := 3, ground := Go.Ground.chain }], guard := none }) rfl (fun K hK => ?_) AllReadyH.nil)
      go_simp
      refine hK.out _ _ trivial (fun hHeld => ?_)
      clear hK K
      (try simp only [Act.put, List.setIfInBounds_toArray, List.set_cons_zero, List.set_cons_succ])
      refine wpAnyH_ready (rs := [5]) (by kernel_rfl) (by simp) ?_
      refine AllReadyH.cons (o := { dst := some 30, op := Go.Op.call { callee := Go.Callee.value (Go.Operand.func 14), args := #[Go.Operand.tmp 29, Go.Operand.const (Go.Value.int Go.IntKind.i64 2)], argTypes := #[46, 3] }, type := 3, pos := "l5_draw.go:51", after := #[{ on := 4, ground := Go.Ground.data }, { on := 3, ground := Go.Ground.chain }], guard := none }) rfl (fun K hK => ?_) AllReadyH.nil
      go_simp
      refine hK2.mono ?_
      rintro _ w4 ⟨y, rfl, hy0, hy1, hC4, hM4⟩
      have hLB4 := hLB3.mid hM4 hblb
      have q4 := hLB4.c0
      have hxy0 : 0 ≤ x * y := Int.mul_nonneg hx30 hy0
      have hxy1 : x * y ≤ 2 := by
        rcases hy1 with hy1 | rfl
        · have : y = 0 ∨ y = 1 := by omega
          rcases this with rfl | rfl <;> omega
        · omega
      have hwp : IntKind.i64.wrap (x * y) = x * y := by rw [IntKind.wrap_i64]; omega
      have hwq : IntKind.i64.wrap (1 + x * y) = 1 + x * y := by rw [IntKind.wrap_i64]; omega
      have hA9 := b1 w4 (.cells #[.int .i64 (1 + x * y)] 3)
      have hLBA := hLB4.later hA9
      have q4' := hLBA.c0
      have hsz4 := ltCell hLB4.c0
      dsimp only at hsz4
      obtain ⟨v', W1, hap, hown1, hgr1, _, hloc1⟩ := run_append_own_at (P := Tryz.prog) (w4.alloc (.cells #[.int .i64 (1 + x * y)] 3)) (bl + 1) 23 23 3 i0 _ 1 8 Tryz.underlying23 ii iz0 iz1 iz2 rfl (by decide) (.slice at_ tr.length ct) tr.length (intCells tr) hLBA.own.ints ⟨w4.heap.size, 0, none⟩ 1 1 [.int .i64 (1 + x * y)] rfl cells1_lie one1 (by unfold maxLen; omega) (by omega) (by simp only [World.size_alloc]; omega)
      have hap' : Hid _ := hap
      obtain ⟨gn, cn, rfl⟩ := Joins.ownsRow_form hown1 (by omega)
      have hbk : W1.heap[bl]? = _ := hgr1.block bl (ltCell hLBA.c0) (fun e => by have := (hLBA.own.ints.lt bl e.symm).1; omega)
      have m3 := (World.cell?_of_block (w' := W1) (a := ⟨bl, 0, none⟩) hbk).trans hLBA.c0
      have mz := (World.frozen?_of_block (w' := W1) (a := ⟨bl, 0, none⟩) hbk).trans hLBA.z0
      clear hap hbk
      refine hK.out _ _ trivial (fun hHeld => ?_)
      clear hK K
      (try simp only [Act.put, List.setIfInBounds_toArray, List.set_cons_zero, List.set_cons_succ])
      refine wpAnyH_take (i := 6) (oi := { dst := some 31, op := Go.Op.binOp Go.BinOp.mul 3 (Go.Operand.tmp 28) (Go.Operand.tmp 30) 3, type := 3, pos := "l5_draw.go:51", after := #[{ on := 3, ground := Go.Ground.data }, { on := 5, ground := Go.Ground.data }], guard := none }) (v := ?vv7_6) rfl (by kernel_rfl) (by kernel_rfl) (by kernel_rfl) (fun _ _ _ h => h) (Or.inl ⟨by rfl, ?hy7_6⟩) (by assumption) ?rest7_6
      case hy7_6 =>
        intro w hSw
        (try dsimp only at hSw)
        go_simp
        (try with_reducible rfl)
      simp only [Act.put, List.setIfInBounds_toArray, List.set_cons_zero, List.set_cons_succ]
      refine wpAnyH_take (i := 7) (oi := { dst := some 32, op := Go.Op.binOp Go.BinOp.add 3 (Go.Operand.const (Go.Value.int Go.IntKind.i64 1)) (Go.Operand.tmp 31) 3, type := 3, pos := "l5_draw.go:51", after := #[{ on := 6, ground := Go.Ground.data }], guard := none }) (v := ?vv8_7) rfl (by kernel_rfl) (by kernel_rfl) (by kernel_rfl) (fun _ _ _ h => h) (Or.inl ⟨by rfl, ?hy8_7⟩) (by assumption) ?rest8_7
      case hy8_7 =>
        intro w hSw
        (try dsimp only at hSw)
        go_simp
        (try with_reducible rfl)
      simp only [Act.put, List.setIfInBounds_toArray, List.set_cons_zero, List.set_cons_succ]
      refine wpAnyH_ready (rs := [8]) (by kernel_rfl) (by simp) ?_
      refine AllReadyH.cons (o := { dst := some 33, op := Go.Op.buildSlice 23 1 #[(0, Go.Operand.tmp 32)], type := 23, pos := "l5_draw.go:51", after := #[{ on := 7, ground := Go.Ground.data }], guard := none }) rfl (fun K hK => ?_) AllReadyH.nil
      go_simp
      refine hK.out _ _ trivial (fun hHeld => ?_)
      clear hK K
      (try simp only [Act.put, List.setIfInBounds_toArray, List.set_cons_zero, List.set_cons_succ])
      refine wpAnyH_ready (rs := [9]) (by kernel_rfl) (by simp) ?_
      refine AllReadyH.cons (o := { dst := some 34, op := Go.Op.call { callee := Go.Callee.builtin Go.Builtin.append, args := #[Go.Operand.tmp 26, Go.Operand.tmp 33], argTypes := #[23, 23] }, type := 23, pos := "l5_draw.go:51", after := #[{ on := 1, ground := Go.Ground.data }, { on := 8, ground := Go.Ground.data }, { on := 5, ground := Go.Ground.chain }], guard := none }) rfl (fun K hK => ?_) AllReadyH.nil
      refine step_append_eq _ (by rfl) _ _ _ (by rfl) _ _ _ _ (by rfl) (by rfl) hap'.out ?_
      refine hK.out _ _ trivial (fun hHeld => ?_)
      clear hK K
      (try simp only [Act.put, List.setIfInBounds_toArray, List.set_cons_zero, List.set_cons_succ])
      refine wpAnyH_take (i := 10) (oi := { dst := some 35, op := Go.Op.fieldAddr 26 (Go.Operand.tmp 5) 0, type := 0, pos := "l5_draw.go:51", after := #[{ on := 0, ground := Go.Ground.phase }, { on := 1, ground := Go.Ground.phase }, { on := 2, ground := Go.Ground.phase }, { on := 3, ground := Go.Ground.phase }, { on := 4, ground := Go.Ground.phase }, { on := 5, ground := Go.Ground.phase }, { on := 6, ground := Go.Ground.phase }, { on := 7, ground := Go.Ground.phase }, { on := 8, ground := Go.Ground.phase }, { on := 9, ground := Go.Ground.phase }], guard := none }) (v := ?vv9_10) rfl (by kernel_rfl) (by kernel_rfl) (by kernel_rfl) (fun _ _ _ h => h) (Or.inl ⟨by rfl, ?hy9_10⟩) (by assumption) ?rest9_10
      case hy9_10 =>
        intro w hSw
        (try dsimp only at hSw)
        go_simp
        (try with_reducible rfl)
      simp only [Act.put, List.setIfInBounds_toArray, List.set_cons_zero, List.set_cons_succ]
      refine wpAnyH_ready (rs := [11]) (by kernel_rfl) (by simp) ?_
      refine AllReadyH.cons (o := { dst := none, op := Go.Op.store 23 (Go.Operand.tmp 35) (Go.Operand.tmp 34), type := 0, pos := "l5_draw.go:51", after := #[{ on := 10, ground := Go.Ground.data }, { on := 9, ground := Go.Ground.data }, { on := 9, ground := Go.Ground.chain }, { on := 0, ground := Go.Ground.phase }, { on := 1, ground := Go.Ground.phase }, { on := 2, ground := Go.Ground.phase }, { on := 3, ground := Go.Ground.phase }, { on := 4, ground := Go.Ground.phase }, { on := 5, ground := Go.Ground.phase }, { on := 6, ground := Go.Ground.phase }, { on := 7, ground := Go.Ground.phase }, { on := 8, ground := Go.Ground.phase }, { on := 9, ground := Go.Ground.phase }], guard := none }) rfl (fun K hK => ?_) AllReadyH.nil
      go_simp
      refine hK.out _ _ trivial (fun hHeld => ?_)
      clear hK K
      (try simp only [Act.put, List.setIfInBounds_toArray, List.set_cons_zero, List.set_cons_succ])
      refine wpAnyH_done (by kernel_rfl) ?_ _
      rotate_left
      go_simp
      refine hK2.mono ?_
      rintro _ w4 ⟨y, rfl, hy0, hy1, hC4, hM4⟩
      have hLB4 := hLB3.mid hM4 hblb
      have q4 := hLB4.c0
      have hxy0 : 0 ≤ x * y := Int.mul_nonneg hx30 hy0
      have hxy1 : x * y ≤ 2 := by
        rcases hy1 with hy1 | rfl
        · have : y = 0 ∨ y = 1 := by omega
          rcases this with rfl | rfl <;> omega
        · omega
      have hwp : IntKind.i64.wrap (x * y) = x * y := by rw [IntKind.wrap_i64]; omega
      have hwq : IntKind.i64.wrap (1 + x * y) = 1 + x * y := by rw [IntKind.wrap_i64]; omega
      have hA9 := b1 w4 (.cells #[.int .i64 (1 + x * y)] 3)
      have hLBA := hLB4.later hA9
      have q4' := hLBA.c0
      have hsz4 := ltCell hLB4.c0
      dsimp only at hsz4
      obtain ⟨v', W1, hap, hown1, hgr1, _, hloc1⟩ := run_append_own_at (P := Tryz.prog) (w4.alloc (.cells #[.int .i64 (1 + x * y)] 3)) (bl + 1) 23 23 3 i0 _ 1 8 Tryz.underlying23 ii iz0 iz1 iz2 rfl (by decide) (.slice at_ tr.length ct) tr.length (intCells tr) hLBA.own.ints ⟨w4.heap.size, 0, none⟩ 1 1 [.int .i64 (1 + x * y)] rfl cells1_lie one1 (by unfold maxLen; omega) (by omega) (by simp only [World.size_alloc]; omega)
      have hap' : Hid _ := hap
      obtain ⟨gn, cn, rfl⟩ := Joins.ownsRow_form hown1 (by omega)
      have hbk : W1.heap[bl]? = _ := hgr1.block bl (ltCell hLBA.c0) (fun e => by have := (hLBA.own.ints.lt bl e.symm).1; omega)
      have m3 := (World.cell?_of_block (w' := W1) (a := ⟨bl, 0, none⟩) hbk).trans hLBA.c0
      have mz := (World.frozen?_of_block (w' := W1) (a := ⟨bl, 0, none⟩) hbk).trans hLBA.z0
      clear hap hbk
      refine hK.out _ _ trivial (fun hHeld => ?_)
      clear hK K
      (try simp only [Act.put, List.setIfInBounds_toArray, List.set_cons_zero, List.set_cons_succ])
      refine wpAnyH_take (i := 6) (oi := { dst := some 31, op := Go.Op.binOp Go.BinOp.mul 3 (Go.Operand.tmp 28) (Go.Operand.tmp 30) 3, type := 3, pos := "l5_draw.go:51", after := #[{ on := 3, ground := Go.Ground.data }, { on := 5, ground := Go.Ground.data }], guard := none }) (v := ?vv10_6) rfl (by kernel_rfl) (by kernel_rfl) (by kernel_rfl) (fun _ _ _ h => h) (Or.inl ⟨by rfl, ?hy10_6⟩) (by assumption) ?rest10_6
      case hy10_6 =>
        intro w hSw
        (try dsimp only at hSw)
        go_simp
        (try with_reducible rfl)
      simp only [Act.put, List.setIfInBounds_toArray, List.set_cons_zero, List.set_cons_succ]
      refine wpAnyH_take (i := 7) (oi := { dst := some 32, op := Go.Op.binOp Go.BinOp.add 3 (Go.Operand.const (Go.Value.int Go.IntKind.i64 1)) (Go.Operand.tmp 31) 3, type := 3, pos := "l5_draw.go:51", after := #[{ on := 6, ground := Go.Ground.data }], guard := none }) (v := ?vv11_7) rfl (by kernel_rfl) (by kernel_rfl) (by kernel_rfl) (fun _ _ _ h => h) (Or.inl ⟨by rfl, ?hy11_7⟩) (by assumption) ?rest11_7
      case hy11_7 =>
        intro w hSw
        (try dsimp only at hSw)
        go_simp
        (try with_reducible rfl)
      simp only [Act.put, List.setIfInBounds_toArray, List.set_cons_zero, List.set_cons_succ]
      refine wpAnyH_ready (rs := [1, 8]) (by kernel_rfl) (by simp) ?_
      refine AllReadyH.cons (o := { dst := some 26, op := Go.Op.load 23 (Go.Operand.tmp 25), type := 23, pos := "l5_draw.go:51", after := #[{ on := 0, ground := Go.Ground.data }], guard := none }) rfl (fun K hK => ?_) (AllReadyH.cons (o := { dst := some 33, op := Go.Op.buildSlice 23 1 #[(0, Go.Operand.tmp 32)], type := 23, pos := "l5_draw.go:51", after := #[{ on := 7, ground := Go.Ground.data }], guard := none }) rfl (fun K hK => ?_) AllReadyH.nil)
      go_simp
      refine hK.out _ _ trivial (fun hHeld => ?_)
      clear hK K
      (try simp only [Act.put, List.setIfInBounds_toArray, List.set_cons_zero, List.set_cons_succ])
      refine wpAnyH_ready (rs := [8]) (by kernel_rfl) (by simp) ?_
      refine AllReadyH.cons (o := { dst := some 33, op := Go.Op.buildSlice 23 1 #[(0, Go.Operand.tmp 32)], type := 23, pos := "l5_draw.go:51", after := #[{ on := 7, ground := Go.Ground.data }], guard := none }) rfl (fun K hK => ?_) AllReadyH.nil
      go_simp
      refine hK.out _ _ trivial (fun hHeld => ?_)
      clear hK K
      (try simp only [Act.put, List.setIfInBounds_toArray, List.set_cons_zero, List.set_cons_succ])
      refine wpAnyH_ready (rs := [9]) (by kernel_rfl) (by simp) ?_
      refine AllReadyH.cons (o := { dst := some 34, op := Go.Op.call { callee := Go.Callee.builtin Go.Builtin.append, args := #[Go.Operand.tmp 26, Go.Operand.tmp 33], argTypes := #[23, 23] }, type := 23, pos := "l5_draw.go:51", after := #[{ on := 1, ground := Go.Ground.data }, { on := 8, ground := Go.Ground.data }, { on := 5, ground := Go.Ground.chain }], guard := none }) rfl (fun K hK => ?_) AllReadyH.nil
      refine step_append_eq _ (by rfl) _ _ _ (by rfl) _ _ _ _ (by rfl) (by rfl) hap'.out ?_
      refine hK.out _ _ trivial (fun hHeld => ?_)
      clear hK K
      (try simp only [Act.put, List.setIfInBounds_toArray, List.set_cons_zero, List.set_cons_succ])
      refine wpAnyH_take (i := 10) (oi := { dst := some 35, op := Go.Op.fieldAddr 26 (Go.Operand.tmp 5) 0, type := 0, pos := "l5_draw.go:51", after := #[{ on := 0, ground := Go.Ground.phase }, { on := 1, ground := Go.Ground.phase }, { on := 2, ground := Go.Ground.phase }, { on := 3, ground := Go.Ground.phase }, { on := 4, ground := Go.Ground.phase }, { on := 5, ground := Go.Ground.phase }, { on := 6, ground := Go.Ground.phase }, { on := 7, ground := Go.Ground.phase }, { on := 8, ground := Go.Ground.phase }, { on := 9, ground := Go.Ground.phase }], guard := none }) (v := ?vv12_10) rfl (by kernel_rfl) (by kernel_rfl) (by kernel_rfl) (fun _ _ _ h => h) (Or.inl ⟨by rfl, ?hy12_10⟩) (by assumption) ?rest12_10
      case hy12_10 =>
        intro w hSw
        (try dsimp only at hSw)
        go_simp
        (try with_reducible rfl)
      simp only [Act.put, List.setIfInBounds_toArray, List.set_cons_zero, List.set_cons_succ]
      refine wpAnyH_ready (rs := [11]) (by kernel_rfl) (by simp) ?_
      refine AllReadyH.cons (o := { dst := none, op := Go.Op.store 23 (Go.Operand.tmp 35) (Go.Operand.tmp 34), type := 0, pos := "l5_draw.go:51", after := #[{ on := 10, ground := Go.Ground.data }, { on := 9, ground := Go.Ground.data }, { on := 9, ground := Go.Ground.chain }, { on := 0, ground := Go.Ground.phase }, { on := 1, ground := Go.Ground.phase }, { on := 2, ground := Go.Ground.phase }, { on := 3, ground := Go.Ground.phase }, { on := 4, ground := Go.Ground.phase }, { on := 5, ground := Go.Ground.phase }, { on := 6, ground := Go.Ground.phase }, { on := 7, ground := Go.Ground.phase }, { on := 8, ground := Go.Ground.phase }, { on := 9, ground := Go.Ground.phase }], guard := none }) rfl (fun K hK => ?_) AllReadyH.nil
      go_simp
      refine hK.out _ _ trivial (fun hHeld => ?_)
      clear hK K
      (try simp only [Act.put, List.setIfInBounds_toArray, List.set_cons_zero, List.set_cons_succ])
      refine wpAnyH_done (by kernel_rfl) ?_ _
      rotate_left
      go_simp
      refine hK.out _ _ trivial (fun hHeld => ?_)
      clear hK K
      (try simp only [Act.put, List.setIfInBounds_toArray, List.set_cons_zero, List.set_cons_succ])
      refine wpAnyH_ready (rs := [1]) (by kernel_rfl) (by simp) ?_
      refine AllReadyH.cons (o := { dst := some 26, op := Go.Op.load 23 (Go.Operand.tmp 25), type := 23, pos := "l5_draw.go:51", after := #[{ on := 0, ground := Go.Ground.data }], guard := none }) rfl (fun K hK => ?_) AllReadyH.nil
      go_simp
      refine hK.out _ _ trivial (fun hHeld => ?_)
      clear hK K
      (try simp only [Act.put, List.setIfInBounds_toArray, List.set_cons_zero, List.set_cons_succ])
      refine wpAnyH_ready (rs := [9]) (by kernel_rfl) (by simp) ?_
      refine AllReadyH.cons (o := { dst := some 34, op := Go.Op.call { callee := Go.Callee.builtin Go.Builtin.append, args := #[Go.Operand.tmp 26, Go.Operand.tmp 33], argTypes := #[23, 23] }, type := 23, pos := "l5_draw.go:51", after := #[{ on := 1, ground := Go.Ground.data }, { on := 8, ground := Go.Ground.data }, { on := 5, ground := Go.Ground.chain }], guard := none }) rfl (fun K hK => ?_) AllReadyH.nil
      refine step_append_eq _ (by rfl) _ _ _ (by rfl) _ _ _ _ (by rfl) (by rfl) hap'.out ?_
      refine hK.out _ _ trivial (fun hHeld => ?_)
      clear hK K
      (try simp only [Act.put, List.setIfInBounds_toArray, List.set_cons_zero, List.set_cons_succ])
      refine wpAnyH_take (i := 10) (oi := { dst := some 35, op := Go.Op.fieldAddr 26 (Go.Operand.tmp 5) 0, type := 0, pos := "l5_draw.go:51", after := #[{ on := 0, ground := Go.Ground.phase }, { on := 1, ground := Go.Ground.phase }, { on := 2, ground := Go.Ground.phase }, { on := 3, ground := Go.Ground.phase }, { on := 4, ground := Go.Ground.phase }, { on := 5, ground := Go.Ground.phase }, { on := 6, ground := Go.Ground.phase }, { on := 7, ground := Go.Ground.phase }, { on := 8, ground := Go.Ground.phase }, { on := 9, ground := Go.Ground.phase }], guard := none }) (v := ?vv13_10) rfl (by kernel_rfl) (by kernel_rfl) (by kernel_rfl) (fun _ _ _ h => h) (Or.inl ⟨by rfl, ?hy13_10⟩) (by assumption) ?rest13_10
      case hy13_10 =>
        intro w hSw
        (try dsimp only at hSw)
        go_simp
        (try with_reducible rfl)
      simp only [Act.put, List.setIfInBounds_toArray, List.set_cons_zero, List.set_cons_succ]
      refine wpAnyH_ready (rs := [11]) (by kernel_rfl) (by simp) ?_
      refine AllReadyH.cons (o := { dst := none, op := Go.Op.store 23 (Go.Operand.tmp 35) (Go.Operand.tmp 34), type := 0, pos := "l5_draw.go:51", after := #[{ on := 10, ground := Go.Ground.data }, { on := 9, ground := Go.Ground.data }, { on := 9, ground := Go.Ground.chain }, { on := 0, ground := Go.Ground.phase }, { on := 1, ground := Go.Ground.phase }, { on := 2, ground := Go.Ground.phase }, { on := 3, ground := Go.Ground.phase }, { on := 4, ground := Go.Ground.phase }, { on := 5, ground := Go.Ground.phase }, { on := 6, ground := Go.Ground.phase }, { on := 7, ground := Go.Ground.phase }, { on := 8, ground := Go.Ground.phase }, { on := 9, ground := Go.Ground.phase }], guard := none }) rfl (fun K hK => ?_) AllReadyH.nil
      go_simp
      refine hK.out _ _ trivial (fun hHeld => ?_)
      clear hK K
      (try simp only [Act.put, List.setIfInBounds_toArray, List.set_cons_zero, List.set_cons_succ])
      refine wpAnyH_done (by kernel_rfl) ?_ _
      all_goals
        have hlow : ∀ k, (Value.slice at_ tr.length ct).ownBlock = some k → bl + 1 ≤ k := fun k hk => (hLBA.own.ints.lt k hk).1
        have hLB9 := hLBA.track hown1 hgr1
        have hMx : Mid b (b + 1) w (w4.alloc (.cells #[.int .i64 (1 + x * y)] 3)) := (((hMr.trans (Mid.ofBelow hbd (by have := hCr.lt; omega))).trans hM3).trans hM4).trans (Mid.ofBelow hA9 (by omega))
        have hM9 := (hMx.grown hgr1 (fun k hk => by have := hlow k hk; omega) (by omega)).setNew ⟨bl, 0, none⟩ (Nat.le_of_lt hblw) (by omega) (.slice (some ⟨gn, 0, none⟩) (tr.length + 1) cn)
        have hbkc : W1.heap[b]? = (w4.alloc (.cells #[.int .i64 (1 + x * y)] 3)).heap[b]? := hgr1.block b (by simp only [World.size_alloc]; omega) (fun e => by have := hlow b e.symm; omega)
        have hC9 : Cur w0 b (kk + 4) (W1.setCell ⟨bl, 0, none⟩ (.slice (some ⟨gn, 0, none⟩) (tr.length + 1) cn)) := (hC4.later hA9).same ((below_grown (hC4.later hA9).base hgr1 (by have := hC4.base.size; simp only [World.size_alloc]; omega) (fun k hk => by have := hlow k hk; have := hC4.lo; omega)).setCell (p := ⟨bl, 0, none⟩) (by have := hC4.lo; show w0.heap.size ≤ bl; omega) _) ((Below.heap_setCell W1 _ _ b (by show b ≠ bl; omega)).trans hbkc)
        have hr9 := ((((hroomr.keep (Mid.ofBelow (lo := 0) (hi := 0) hbd (Nat.zero_le _))).keep hM3).keep hM4).keep (Mid.ofBelow (lo := 0) (hi := 0) hA9 (Nat.zero_le _))).grown hgr1 (fun k hk => by have := hlow k hk; omega) |>.set ⟨bl, 0, none⟩ (.slice (some ⟨gn, 0, none⟩) (tr.length + 1) cn)
        go_wp2
        go_roundw
        case rel =>
          refine ⟨c - 1, kk + 4, tr ++ [1 + x * y], _, by rw [show ((c - 1 : Nat) : Int) = (c : Int) - 1 by omega], by rw [List.length_append]; simp; omega, by rw [List.length_append]; simp; omega, fun z hz => ?_, hLB9, hC9, hM9, hr9⟩
          rcases List.mem_append.1 hz with hz | hz
          · exact htr z hz
          · rw [List.mem_singleton] at hz; subst hz; omega
        case measure => simp [intOf] <;> omega
    · obtain rfl : c = 0 := by omega
      obtain ⟨at_, ct, rfl, _⟩ := ownInts hLBr.own.ints
      have q0 := hLBr.c0
      have hmb : most - 1 ≤ 100000 := by omega
      have hK3 := pick_any w0 b kk (most - 1) wr (by omega) hmb hCr
      go_wp2_with (go_at_call 14; with_reducible refine hK3.mono ?_; rintro _ w3 ⟨x3, rfl, hx30, hx31, hC3, hM3⟩)
      have hLB3 := hLBr.mid hM3 hblb
      have hroom3 := hroomr.keep hM3
      have hM03 := hMr.trans hM3
      have hlg0 : 2 ≤ 2 + x3 ∧ 2 + x3 ≤ most := by omega
      obtain ⟨lg, hlg⟩ : ∃ lg : Nat, 2 + x3 = (lg : Int) := ⟨(2 + x3).toNat, by omega⟩
      have hk3 : kk + 2 ≤ k + 30 := by omega
      have htl : tr.length = N := by omega
      have hgap : 0 ≤ gp ∧ gp ≤ 4 := by omega
      have hlg9 : lg ≤ 9 := by omega
      clear hK3 hLBr hCr hMr hroomr hM3 q0 hlg0 hc hLB2 hC2 hMd2 hroom2
      rw [hlg, htl]
      rename_i Kz az
      refine line_trains w0 b bl N k lg lg (kk + 2) tr gp (.slice at_ tr.length ct) w w3 Kz _ ?_ hk hN1' hlg9 hblb hblw hblt ⟨by simp, by simp, by simp; omega, fun x hx => absurd hx List.not_mem_nil, hLB3, hC3, hM03, hroom3⟩
      intro u9 u10 u11 u12 u13 u14 u44 u45 u46 u47 u48 u49 u50 u51 u52 u53 u54 u55 u56 u57 u58 u59 u60 u61 u62 u63 u64 u65 u66 u67 u68 u69 u70 u71 u72 u73 u74 u75 u76 u77 u78 u79 u80 u81 u82 u83 u84 u85 u86 u87 u88 u89 u90 u91 u92 u93 u94 u95 u96 u97 u98 u99 u100 u101 u102 u103 u104 u105 u106 u107 u108 u109 u110 u111 u112 u113 u114 u115 u116 u117 u118 u119 u120 u121 u122 u123 u124 u125 u126 u127 u128 c8 g kC L vT wr hT
      have hLBr := hT.box
      have hCr := hT.cur
      have hMr := hT.mid
      have hL5 := hT.len
      have hsum := hT.sum
      have hkC := hT.more
      have hdr := hT.dr
      obtain ⟨aT, cT, rfl, _⟩ := hLBr.own.trs.trains (fun x hx => by
        have h1 : x.1.legs.length ≤ (L.map fun x => x.1.legs.length).sum := le_sum (List.mem_map.2 ⟨x, hx, rfl⟩)
        unfold maxLen; omega)
      have hs0 : (L.map fun x => x.1.legs.length).sum ≤ 9 := by omega
      obtain ⟨x0, e0, f0⟩ := hT.room 0 (by omega)
      obtain ⟨x1, e1, f1⟩ := hT.room 1 (by omega)
      obtain ⟨x2', e2, f2⟩ := hT.room 2 (by omega)
      have q0 := hLBr.c0
      have q1 := hLBr.c1
      have q2 := hLBr.c2
      have hne : w.heap.size ≠ bl := by omega
      refine az _ _ ?_
      clear az
      go_wp2
      refine bodyPost_ret (v := .agg #[.slice at_ tr.length ct, .int .i64 gp, .slice aT L.length cT]) (by simp [results, Tryz.results13, go_sem, e0, e1, e2, htl]) rfl ⟨⟨tr, gp, L.map Prod.fst⟩, ⟨by dsimp only; omega, htr, hgap, by simpa using hL5, by rw [List.map_map]; show (L.map fun x => x.1.legs.length).sum ≤ 10; omega, fun t ht => (by obtain ⟨x, hx, rfl⟩ := List.mem_map.1 ht; dsimp only; rw [htl]; exact hdr x hx)⟩, ⟨L, at_, ct, aT, cT, rfl, rfl, ?_⟩, ?_, ?_⟩
      · exact (((hLBr.own.set ⟨w.heap.size, _, none⟩ (by show w.heap.size < bl + 1; omega) _).set ⟨w.heap.size, _, none⟩ (by show w.heap.size < bl + 1; omega) _).set ⟨w.heap.size, _, none⟩ (by show w.heap.size < bl + 1; omega) _).low (by omega)
      · exact (hCr.more (by omega)).same (((hCr.base.setCell (p := ⟨w.heap.size, _, none⟩) (by have := hCr.lo; show w0.heap.size ≤ w.heap.size; omega) _).setCell (p := ⟨w.heap.size, _, none⟩) (by have := hCr.lo; show w0.heap.size ≤ w.heap.size; omega) _).setCell (p := ⟨w.heap.size, _, none⟩) (by have := hCr.lo; show w0.heap.size ≤ w.heap.size; omega) _) ((Below.heap_setCell _ _ _ b (by show b ≠ w.heap.size; omega)).trans ((Below.heap_setCell _ _ _ b (by show b ≠ w.heap.size; omega)).trans (Below.heap_setCell _ _ _ b (by show b ≠ w.heap.size; omega))))
      · exact ((hMr.setNew ⟨w.heap.size, _, none⟩ (Nat.le_refl _) (by omega) _).setNew ⟨w.heap.size, _, none⟩ (Nat.le_refl _) (by omega) _).setNew ⟨w.heap.size, _, none⟩ (Nat.le_refl _) (by omega) _
end Go.Proofs.YtgdljgjamafpiaaGreatDoor
