/-
  The draws of the model: a line, a train's legs.
  The draws of the model: a line, its trains.
  The draws of the model: a line, its tracks.
  The draws of the model: a line as it is drawn, for a law.
  The draws of the model: an order.
  The draws of the model: an order, for a law; two plans that are the same.
-/
import Derived.Test.YtnjaegeapcijpaaDoorGCur
import Derived.Test.YtnjaegeapcijpaaDoorGenM
import Derived.Test.YtnjaegeapcijpaaDoorCurP
import Derived.Deep.RegionHeld3
import Derived.Maps.AppendAt
import Derived.Test.YtnjaegeapcijpaaDoorPlansC
namespace Go.Proofs.YtnjaegeapcijpaaDoor
open Go.RowKit

/-- the first region of a code -/
def firstRegC : Code → Option Nat
  | .region i _ _ => some i
  | .seq a b => match firstRegC a with
    | some i => some i
    | none => firstRegC b
  | .block _ c => firstRegC c
  | .scope c => firstRegC c
  | .loop c => firstRegC c
  | _ => none
/-- the body of the loop that begins with a region -/
def loopAtC (id : Nat) : Code → Option Code
  | .loop c => match firstRegC c with
    | some i => if i = id then some c else loopAtC id c
    | none => loopAtC id c
  | .seq a b => match loopAtC id a with
    | some c => some c
    | none => loopAtC id b
  | .block _ c => loopAtC id c
  | .scope c => loopAtC id c
  | .cond _ a b => match loopAtC id a with
    | some c => some c
    | none => loopAtC id b
  | _ => none
noncomputable def lineL : Code := ((Tryd.f10.body.bind (loopAtC 14)).getD .skip)

theorem Cur.grown {w0 W W' : World} {b k : Nat} {row : Option Nat} (h : Cur w0 b k W) (hg : W.grownBy W' row) (hr : ∀ j, row = some j → b < j) : Cur w0 b k W' :=
  h.same (below_grown h.base hg (by have := h.base.size; omega) (fun j hj => by have := hr j hj; have := h.lo; omega)) (hg.block b h.lt (fun e => by have := hr b e.symm; omega))
theorem Cur.set {w0 W : World} {b k : Nat} (h : Cur w0 b k W) (p : Addr) (hp : b < p.block) (x : Value) : Cur w0 b k (W.setCell p x) :=
  h.same (h.base.setCell (by have := h.lo; omega) x) (Below.heap_setCell W p x b (by omega))
theorem TBox.grown4 {B0 bt : Nat} {W W' : World} {t : TrL} {lv : Value} (h : TBox B0 bt W t lv) (hg : W.grownBy W' lv.ownBlock) : W'.cell? ⟨bt, 4, none⟩ = some lv ∧ W'.frozen? ⟨bt, 4, none⟩ = false := by
  have hbk : W'.heap[bt]? = W.heap[bt]? := hg.block bt (ltCell h.c0) (fun e => h.off e.symm)
  exact ⟨(World.cell?_of_block (w := W) (w' := W') (a := ⟨bt, 4, none⟩) hbk).trans h.c4, (World.frozen?_of_block (w := W) (w' := W') (a := ⟨bt, 4, none⟩) hbk).trans h.z4⟩
theorem TBox.due {B0 bt : Nat} {W : World} {t : TrL} {lv : Value} (h : TBox B0 bt W t lv) (d : Int) : TBox B0 bt (W.setCell ⟨bt, 2, none⟩ (.int .i64 d)) { t with due := d } lv :=
  ⟨(cell_set_ne (by omega)).trans h.c0, (cell_set_ne (by omega)).trans h.c1, World.cell?_setCell_same _ _ _ h.c2, (cell_set_ne (by omega)).trans h.c3, (cell_set_ne (by omega)).trans h.c4, (World.frozen?_setCell ..).trans h.z4, ownsRow_same h.legs (fun k hk => Below.heap_setCell W _ _ k (fun e => h.off (by rw [hk, e]))), h.off⟩
theorem LBox.grown2 {B0 bl : Nat} {W W' : World} {tr : List Int} {gap : Int} {L : List TrV} {vt vT : Value} (h : LBox B0 bl W tr gap L vt vT) (hg : W.grownBy W' vT.ownBlock) : W'.cell? ⟨bl, 2, none⟩ = some vT ∧ W'.frozen? ⟨bl, 2, none⟩ = false := by
  have hlt := h.lt
  have hbk : W'.heap[bl]? = W.heap[bl]? := hg.block bl (ltCell h.c0) (fun e => by have := (h.own.trs.lt (Or.inl e.symm)).1; omega)
  exact ⟨(World.cell?_of_block (w := W) (w' := W') (a := ⟨bl, 2, none⟩) hbk).trans h.c2, (World.frozen?_of_block (w := W) (w' := W') (a := ⟨bl, 2, none⟩) hbk).trans h.z2⟩
theorem legs_lie (W : World) (x y z : Int) (o : Obj) : ∀ (j : Nat) (u : Value), [Value.int .i64 x, .int .i64 y, .int .i64 z][j]? = some u → ((W.alloc o).alloc (.cells #[.int .i64 x, .int .i64 y, .int .i64 z] 73)).cell? ((⟨W.heap.size + 1, 0, none⟩ : Addr).add j) = some u := fun j u hj => by
  have h := cells3_lie (W := W.alloc o) (x := .int .i64 x) (y := .int .i64 y) (z := .int .i64 z) (t := 73) j u hj
  rw [World.size_alloc] at h
  exact h
/-- a train in the making -/
structure LegsI (w0 : World) (b bt N kC g k0 : Nat) (y1 y2 y3 : Int) (v3 : World) (g' kk k3 : Nat) (up at' sum : Int) (t : TrL) (lv : Value) (W : World) : Prop where
  tb : TBox (bt + 1) bt W t lv
  same : t.frm = y1 ∧ t.ready = y2 ∧ t.weight = 1 + y3
  gl : t.legs.length + g' = g
  kl : t.legs.length + k3 = k0
  walk : Walk N y1 t.legs at'
  at_ : 0 ≤ at' ∧ at' < N
  up : up = 0 ∨ up = 1
  sum : 0 ≤ sum ∧ sum ≤ 40 + 40 * (t.legs.length : Int)
  cur : Cur w0 b kk W
  kk : kk ≤ kC + 10 + 4 * t.legs.length
  mid : Mid b (b + 1) v3 W
  room : Room bt 5 W
theorem LegsI.step {w0 : World} {b bt N kC g k0 : Nat} {y1 y2 y3 : Int} {v3 : World} {g' kk k3 : Nat} {up at' sum : Int} {t : TrL} {lv : Value} {W v6 v7 W1 : World} {up' to y6 y7 : Int} {v' : Value} {o o' : Obj}
    (hI : LegsI w0 b bt N kC g k0 y1 y2 y3 v3 g' kk k3 up at' sum t lv W) (hv3 : bt = v3.heap.size) (hbt : b < bt) (hE6 : Mid b (b + 1) W v6) (hE7 : Mid b (b + 1) v6 v7) (hD7 : Cur w0 b (kk + 2 + 2) v7)
    (hg' : 0 < g') (hk3 : 0 < k3) (hup : up' = 0 ∨ up' = 1) (hto : to = at' + 1 ∨ to = at' - 1) (ht0 : 0 ≤ to) (ht1 : to < N) (hy6 : 0 ≤ y6) (hy61 : y6 < 30 ∨ y6 = 0) (hy7 : 0 ≤ y7) (hy71 : y7 < 6 ∨ y7 = 0)
    (ho : W1.ownsRow (bt + 1) 73 3 v' (t.legs.length + 1) (legCells t.legs ++ [.int .i64 to, .int .i64 (1 + y6), .int .i64 y7])) (hgr : ((v7.alloc o).alloc o').grownBy W1 lv.ownBlock) (hloc : v'.ownBlock = lv.ownBlock ∨ v'.ownBlock = some (v7.heap.size + 1 + 1)) :
    LegsI w0 b bt N kC g k0 y1 y2 y3 v3 (g' - 1) (kk + 2 + 2) (k3 - 1) up' to (sum + (1 + y6 + y7)) (t.add ⟨to, 1 + y6, y7⟩) v' (W1.setCell ⟨bt, 4, none⟩ v') := by
  have hTB7 := (hI.tb.mid hE6 (by omega) hbt).mid hE7 (by omega) hbt
  have hTBA := (hTB7.later (b1 v7 o)).later (b1 (v7.alloc o) o')
  have hrow : ∀ k, lv.ownBlock = some k → bt + 1 ≤ k := fun k hk => (World.ownsRow.lt hTBA.legs k hk).1
  have hgl := hI.gl
  have hkl := hI.kl
  have hkk := hI.kk
  have hsm := hI.sum
  have hlen : (t.add ⟨to, 1 + y6, y7⟩).legs.length = t.legs.length + 1 := by unfold TrL.add; simp
  have hMA : Mid b (b + 1) v3 ((v7.alloc o).alloc o') := ((((hI.mid.trans hE6).trans hE7).trans (Mid.ofBelow (b1 v7 o) (by have := hD7.lt; omega))).trans (Mid.ofBelow (b1 (v7.alloc o) o') (by have := hD7.lt; rw [World.size_alloc]; omega)))
  exact ⟨hTBA.add (g := ⟨to, 1 + y6, y7⟩) ho hgr (by simpa [World.size_alloc] using hloc), hI.same, by rw [hlen]; omega, by rw [hlen]; omega, Walk.snoc (g := ⟨to, 1 + y6, y7⟩) hI.walk hto ht0 ht1 (by dsimp only; omega) (by dsimp only; omega) (by dsimp only; omega) (by dsimp only; omega), ⟨ht0, ht1⟩, hup, by rw [hlen]; omega,
    (((hD7.later (b1 v7 o)).later (b1 (v7.alloc o) o')).grown hgr (fun j hj => by have := hrow j hj; omega)).set _ hbt _, by rw [hlen]; omega, (hMA.grown hgr (fun j hj => by have := hrow j hj; omega) (by omega)).setNew _ (by show v3.heap.size ≤ bt; omega) (by omega) _,
    (((((hI.room.keep hE6).keep hE7).keep (Mid.ofBelow (lo := 0) (hi := 0) (b1 v7 o) (Nat.zero_le _))).keep (Mid.ofBelow (lo := 0) (hi := 0) (b1 (v7.alloc o) o') (Nat.zero_le _))).grown hgr (fun j hj e => by have := hrow j hj; omega)).set _ _⟩
set_option maxRecDepth 20000 in
set_option maxHeartbeats 8000000 in
theorem line_legs {s1 s2 s3 s4 s5 s6 s14 s15 s16 s17 s18 s19 s20 s21 s22 s23 s24 s25 s26 s27 s28 s29 s30 s31 s32 s33 s34 s35 s36 s37 s38 s39 s40 s41 s42 s43 s44 s45 s46 s47 s48 s49 s50 s51 s52 s53 s54 s55 s56 s57 s58 s59 s60 s61 s62 s63 s64 s65 s66 s67 s68 s69 s70 s71 s72 s73 s74 s75 s76 s77 s78 s79 s80 s81 s82 s83 s84 s85 s86 s87 s88 s89 s90 s91 s92 s93 s94 s95 s96 s97 s98 s99 s100 s101 s102 s103 s104 s105 s106 s107 s108 s109 s110 s111 s112 s113 s114 s115 s116 s117 s118 s119 s120 s121 s122 s123 s124 s125 s126 s127 s128 s129 : Value} (w0 : World) (b bt N kC g k0 : Nat) (y1 y2 y3 y4 : Int) (v3 v5 : World) (K : Act → World → Prop) (Q : Exit → Act → World → Prop)
    (hK : ∀ (u14 u70 u71 u72 u73 u74 u75 u76 u77 u78 u79 u80 u81 u82 u83 u84 u85 u86 u87 u88 u89 u90 u91 u92 u93 u94 u95 u96 u97 u98 u99 u100 u101 u102 u103 u104 u105 u106 u107 u108 u109 u110 c8 c10 c11 c12 c13 : Value) (g' kk k3 : Nat) (up at' sum : Int) (t : TrL) (lv : Value) (W : World), LegsI w0 b bt N kC g k0 y1 y2 y3 v3 g' kk k3 up at' sum t lv W → 0 < t.legs.length → c8 = .int .i64 g' → c12 = .int .i64 sum → K ⟨(.pointer (some ⟨b, 0, none⟩) :: s1 :: s2 :: s3 :: s4 :: s5 :: s6 :: .int .i64 N :: c8 :: .pointer (some ⟨bt, 0, none⟩) :: c10 :: c11 :: c12 :: c13 :: u14 :: s15 :: s16 :: s17 :: s18 :: s19 :: s20 :: s21 :: s22 :: s23 :: s24 :: s25 :: s26 :: s27 :: s28 :: s29 :: s30 :: s31 :: s32 :: s33 :: s34 :: s35 :: s36 :: s37 :: s38 :: s39 :: s40 :: s41 :: s42 :: s43 :: s44 :: s45 :: s46 :: s47 :: s48 :: s49 :: s50 :: s51 :: s52 :: s53 :: s54 :: s55 :: s56 :: s57 :: s58 :: s59 :: s60 :: s61 :: s62 :: s63 :: s64 :: s65 :: s66 :: s67 :: s68 :: s69 :: u70 :: u71 :: u72 :: u73 :: u74 :: u75 :: u76 :: u77 :: u78 :: u79 :: u80 :: u81 :: u82 :: u83 :: u84 :: u85 :: u86 :: u87 :: u88 :: u89 :: u90 :: u91 :: u92 :: u93 :: u94 :: u95 :: u96 :: u97 :: u98 :: u99 :: u100 :: u101 :: u102 :: u103 :: u104 :: u105 :: u106 :: u107 :: u108 :: u109 :: u110 :: s111 :: s112 :: s113 :: s114 :: s115 :: s116 :: s117 :: s118 :: s119 :: s120 :: s121 :: s122 :: s123 :: s124 :: s125 :: s126 :: s127 :: s128 :: s129 :: []).toArray, []⟩ W)
    (hkC : kC ≤ 5000) (hN : 2 ≤ N ∧ N ≤ 5) (hg : 0 < g ∧ g ≤ 9) (hk0 : 1 ≤ k0 ∧ k0 ≤ 4) (hbt : b < bt) (hv3 : bt = v3.heap.size)
    (hI : LegsI w0 b bt N kC g k0 y1 y2 y3 v3 g (kC + 10) k0 y4 y1 y2 ⟨y1, y2, 0, 1 + y3, []⟩ (.slice none 0 0) v5) :
    Code.wp Tryd.prog (Code.loop lineL) (Exit.inBlock 4 (Exit.then K (Exit.inBlock 3 Q))) ⟨(.pointer (some ⟨b, 0, none⟩) :: s1 :: s2 :: s3 :: s4 :: s5 :: s6 :: .int .i64 N :: .int .i64 g :: .pointer (some ⟨bt, 0, none⟩) :: .int .i64 y4 :: .int .i64 y1 :: .int .i64 y2 :: .int .i64 k0 :: s14 :: s15 :: s16 :: s17 :: s18 :: s19 :: s20 :: s21 :: s22 :: s23 :: s24 :: s25 :: s26 :: s27 :: s28 :: s29 :: s30 :: s31 :: s32 :: s33 :: s34 :: s35 :: s36 :: s37 :: s38 :: s39 :: s40 :: s41 :: s42 :: s43 :: s44 :: s45 :: s46 :: s47 :: s48 :: s49 :: s50 :: s51 :: s52 :: s53 :: s54 :: s55 :: s56 :: s57 :: s58 :: s59 :: s60 :: s61 :: s62 :: s63 :: s64 :: s65 :: s66 :: s67 :: s68 :: s69 :: s70 :: s71 :: s72 :: s73 :: s74 :: s75 :: s76 :: s77 :: s78 :: s79 :: s80 :: s81 :: s82 :: s83 :: s84 :: s85 :: s86 :: s87 :: s88 :: s89 :: s90 :: s91 :: s92 :: s93 :: s94 :: s95 :: s96 :: s97 :: s98 :: s99 :: s100 :: s101 :: s102 :: s103 :: s104 :: s105 :: s106 :: s107 :: s108 :: s109 :: s110 :: s111 :: s112 :: s113 :: s114 :: s115 :: s116 :: s117 :: s118 :: s119 :: s120 :: s121 :: s122 :: s123 :: s124 :: s125 :: s126 :: s127 :: s128 :: s129 :: []).toArray, []⟩ v5 := by
  conv => arg 2; arg 1; whnf
  have hK' : Hid _ := hK
  clear hK
  have hv3' : Hid (bt = v3.heap.size) := hv3
  clear hv3
  go_loopw [8, 10, 11, 12, 13] (fun c8 c10 c11 c12 c13 wr => ∃ (g' kk k3 : Nat) (up at' sum : Int) (t : TrL) (lv : Value), c8 = .int .i64 g' ∧ c10 = .int .i64 up ∧ c11 = .int .i64 at' ∧ c12 = .int .i64 sum ∧ c13 = .int .i64 k3 ∧ LegsI w0 b bt N kC g k0 y1 y2 y3 v3 g' kk k3 up at' sum t lv wr) (fun _ _ _ _ c13 _ => (intOf c13).toNat)
  case atStart => exact ⟨g, kC + 10, k0, y4, y1, y2, ⟨y1, y2, 0, 1 + y3, []⟩, _, rfl, rfl, rfl, rfl, rfl, hI⟩
  case round =>
    clear hI
    obtain ⟨g', kk, k3, up, at', sum, t, lv, rfl, rfl, rfl, rfl, rfl, hI⟩ := hrel
    have hTB := hI.tb
    obtain ⟨la, lc, rfl, _⟩ := OwnLegs.legs hTB.legs
    have hgl := hI.gl
    have hkl := hI.kl
    have hkk := hI.kk
    by_cases hk3 : 0 < k3 ∧ 0 < g'
    · have hk31 : (0 : Int) < (k3 : Int) := by omega
      have hk32 : (0 : Int) < (g' : Int) := by omega
      have hat := hI.at_
      have hup := hI.up
      have hsm := hI.sum
      have htl : t.legs.length ≤ 4 := by omega
      have hP6 := pick_any w0 b kk 30 wr (by omega) (by decide) hI.cur
      obtain ⟨i0, ii, iz0, iz1, iz2⟩ := info3 Tryd.infoLeg
      have hbtw : bt < wr.heap.size := ltCell hTB.c0
      have hcase : at' = 0 ∨ (at' ≠ 0 ∧ at' = (N : Int) - 1) ∨ (at' ≠ 0 ∧ at' ≠ (N : Int) - 1 ∧ up = 0) ∨ (at' ≠ 0 ∧ at' ≠ (N : Int) - 1 ∧ up = 1) := by omega
      rcases hcase with rfl | ⟨hn0, rfl⟩ | ⟨hn0, hn1, rfl⟩ | ⟨hn0, hn1, rfl⟩
      all_goals
        have hz1 : ¬ ((0 : Int) = (N : Int) - 1) := by omega
        go_wp2_with (first | (go_at_call 28; with_reducible refine hP6.mono ?_; rintro _ v6 ⟨y6, rfl, hy60, hy61, hD6, hE6⟩; have hP7 := pick_any w0 b (kk + 2) 6 v6 (by omega) (by decide) hD6) | (go_at_call 28; with_reducible refine hP7.mono ?_; rintro _ v7 ⟨y7, rfl, hy70, hy71, hD7, hE7⟩; have hTB7 := (hTB.mid hE6 (by omega) hbt).mid hE7 (by omega) hbt; have hsz7 : bt < v7.heap.size := ltCell hTB7.c0; have m4 := hTB7.c4; have m4' : ∀ o, (v7.alloc o).cell? ⟨bt, 4, none⟩ = some (.slice la t.legs.length lc) := fun o => cellLater (b1 v7 o) m4) | (at_builtin; refine wpList_append_own_at _ rfl _ _ 69 rfl (bt + 1) 73 i0 _ 3 24 Tryd.underlying69 ii iz0 iz1 iz2 rfl (by decide) _ _ _ rfl ((hTB7.later (b1 v7 _)).later (b1 _ _)).legs ⟨v7.heap.size + 1, 0, none⟩ 1 1 _ rfl (by rfl) (legs_lie v7 _ _ _ _) one3 (by unfold maxLen; omega) (by omega) (by simp only [World.size_alloc]; omega) ?_))
        intro v' W1 hown1 hgr1 _ hloc1
        obtain ⟨gn, cn, rfl⟩ := Joins.ownsRow_form hown1 (by omega)
        obtain ⟨m5, z5⟩ := ((hTB7.later (b1 v7 _)).later (b1 _ _)).grown4 hgr1
        clear hP6 hP7 m4 m4'
        go_wp2
        exact ⟨⟨g' - 1, kk + 2 + 2, k3 - 1, _, _, _, _, _, by congr 1; omega, rfl, rfl, rfl, by congr 1; omega, hI.step hv3'.out hbt hE6 hE7 hD7 hk3.2 hk3.1 (by omega) (by omega) (by omega) (by omega) hy60 hy61 hy70 hy71 hown1 hgr1 hloc1⟩, by simp only [intOf]; omega⟩
    · have hlen : 0 < t.legs.length := by omega
      have hcases : (¬ ((0 : Int) < (k3 : Int))) ∨ ((0 : Int) < (k3 : Int) ∧ ¬ ((0 : Int) < (g' : Int))) := by omega
      rcases hcases with hc1 | ⟨hc1, hc2⟩
      all_goals
        go_wp2
        apply hK'.out
        · exact hI
        · exact hlen
        · rfl
        · rfl
end Go.Proofs.YtnjaegeapcijpaaDoor


namespace Go.Proofs.YtnjaegeapcijpaaDoor
open Go.RowKit

theorem lie5 {W : World} {n : Nat} {x y z p q : Value} {t : TypeId} (hn : W.heap.size = n) : ∀ (j : Nat) (u : Value), [x, y, z, p, q][j]? = some u → (W.alloc (.cells #[x, y, z, p, q] t)).cell? ((⟨n, 0, none⟩ : Addr).add j) = some u := by
  subst hn
  exact cells5_lie
noncomputable def lineTrs : Code := ((Tryd.f10.body.bind (loopAtC 8)).getD .skip)
/-- a line in the making, its tracks done -/
structure TrsI (w0 : World) (b bl N k lg : Nat) (tr : List Int) (gp : Int) (vt : Value) (w : World) (g kC : Nat) (L : List TrV) (vT : Value) (W : World) : Prop where
  sum : (L.map fun x => x.1.legs.length).sum + g = lg
  len : L.length ≤ 5
  more : kC ≤ k + 30 + 20 * L.length + 10 * (L.map fun x => x.1.legs.length).sum
  dr : ∀ x ∈ L, DrawnT N x.1
  box : LBox (bl + 1) bl W tr gp L vt vT
  cur : Cur w0 b kC W
  mid : Mid b (b + 1) w W
  room : Room w.heap.size 3 W
theorem TrsI.step {w0 : World} {b bl N k lg : Nat} {tr : List Int} {gp : Int} {vt : Value} {w : World} {g kC : Nat} {L : List TrV} {vT : Value} {wr : World} {bt k0 : Nat} {y1 y2 y3 : Int} {v3 : World} {g' kk k3 : Nat} {up at' sum : Int} {t : TrL} {lv : Value} {W WD W1 : World} {d : Int} {v' : Value} {o : Obj}
    (hT : TrsI w0 b bl N k lg tr gp vt w g kC L vT wr) (hM3 : Mid b (b + 1) wr v3) (hI : LegsI w0 b bt N kC g k0 y1 y2 y3 v3 g' kk k3 up at' sum t lv W) (hv3 : bt = v3.heap.size) (hbl : b < bl) (hblw : w.heap.size < bl) (hbw : b < w.heap.size) (hN : 0 ≤ y1 ∧ y1 < N) (hy2 : 0 ≤ y2 ∧ y2 ≤ 40) (hy3 : 0 ≤ y3 ∧ y3 ≤ 3) (hL5 : L.length < 5) (hl0 : 0 < t.legs.length)
    (hMD : Mid b (b + 1) v3 WD) (hTD : TBox (bt + 1) bt WD { t with due := d } lv) (hCD : Cur w0 b (kk + 2 + 2) WD) (hd : 0 ≤ d ∧ d ≤ 1000)
    (ho : W1.ownsRow (bl + 1) 71 5 v' (L.length + 1) (trCells L ++ [.int .i64 t.frm, .int .i64 t.ready, .int .i64 d, .int .i64 t.weight, lv])) (hgr : (WD.alloc o).grownBy W1 vT.ownBlock) (hloc : v'.ownBlock = vT.ownBlock ∨ v'.ownBlock = some (WD.alloc o).heap.size) :
    TrsI w0 b bl N k lg tr gp vt w g' (kk + 2 + 2) (L ++ [({ t with due := d }, lv)]) v' (W1.setCell ⟨bl, 2, none⟩ v') := by
  have hLB3 := hT.box.mid hM3 hbl
  have hbl3 : bl < v3.heap.size := ltCell hLB3.c0
  have hMA : Mid b (b + 1) v3 (WD.alloc o) := hMD.trans (Mid.ofBelow (b1 WD o) (by have := hCD.lt; omega))
  have hLBA := hLB3.mid hMA hbl
  have hTA := hTD.later (b1 WD o)
  have hgl := hI.gl
  have hsum := hT.sum
  have hkC := hT.more
  have hkk := hI.kk
  have hsame := hI.same
  have hlen : ((L ++ [({ t with due := d }, lv)]).map fun x : TrV => x.1.legs.length).sum = (L.map fun x => x.1.legs.length).sum + t.legs.length := by simp
  have hlen2 : (L ++ [({ t with due := d }, lv)]).length = L.length + 1 := by simp
  have hrow : ∀ j, vT.ownBlock = some j → bl + 1 ≤ j := fun j hj => (hLB3.own.trs.lt (Or.inl hj)).1
  have hMw : Mid b (b + 1) w (WD.alloc o) := (hT.mid.trans hM3).trans hMA
  refine ⟨by rw [hlen]; omega, by rw [hlen2]; omega, by rw [hlen, hlen2]; omega, fun x hx => ?_, hLBA.snoc (t := { t with due := d }) (lv := lv) ho ?_ (fun j hj => ?_) hgr hloc, ?_, ?_, ?_⟩
  · rcases List.mem_append.1 hx with hx | hx
    · exact hT.dr x hx
    · rw [List.mem_singleton] at hx
      subst hx
      exact ⟨by show 0 ≤ t.frm ∧ t.frm < N; omega, by show 0 ≤ t.ready ∧ t.ready ≤ 40; omega, hd, by show 1 ≤ t.weight ∧ t.weight ≤ 4; omega, hl0, ⟨at', by show Walk N t.frm t.legs at'; rw [hsame.1]; exact hI.walk⟩⟩
  · exact Joins.ownsRow_le hTA.legs (by omega)
  · have hj1 := (World.ownsRow.lt hTA.legs j hj).1
    refine ⟨fun e => ?_, fun e => ?_, fun x hx e => ?_⟩
    · have := (hLB3.own.ints.lt j e).2; omega
    · have := (hLB3.own.trs.lt (Or.inl e)).2; omega
    · have := (hLB3.own.trs.lt (Or.inr ⟨x, hx, e⟩)).2; omega
  · exact ((hCD.later (b1 WD o)).grown hgr (fun j hj => by have := hrow j hj; omega)).set _ hbl _
  · exact (hMw.grown hgr (fun j hj => by have := hrow j hj; omega) (by omega)).setNew _ (by show w.heap.size ≤ bl; omega) (by omega) _
  · exact ((((hT.room.keep hM3).keep hMA)).grown hgr (fun j hj e => by have := hrow j hj; omega)).set _ _
set_option maxRecDepth 20000 in
set_option maxHeartbeats 8000000 in
theorem line_trains {s1 s2 s3 s4 s6 s9 s10 s11 s12 s13 s14 s15 s16 s17 s18 s19 s20 s21 s22 s23 s24 s25 s26 s27 s28 s29 s30 s31 s32 s33 s34 s35 s36 s37 s38 s39 s40 s41 s42 s43 s44 s45 s46 s47 s48 s49 s50 s51 s52 s53 s54 s55 s56 s57 s58 s59 s60 s61 s62 s63 s64 s65 s66 s67 s68 s69 s70 s71 s72 s73 s74 s75 s76 s77 s78 s79 s80 s81 s82 s83 s84 s85 s86 s87 s88 s89 s90 s91 s92 s93 s94 s95 s96 s97 s98 s99 s100 s101 s102 s103 s104 s105 s106 s107 s108 s109 s110 s111 s112 s113 s114 s115 s116 s117 s118 s119 s120 s121 s122 s123 s124 s125 s126 s127 s128 s129 : Value} (w0 : World) (b bl N k lg g0 kC0 : Nat) (tr : List Int) (gp : Int) (vt : Value) (w w3 : World) (K : Act → World → Prop) (Q : Exit → Act → World → Prop)
    (hK : ∀ (u9 u10 u11 u12 u13 u14 u44 u45 u46 u47 u48 u49 u50 u51 u52 u53 u54 u55 u56 u57 u58 u59 u60 u61 u62 u63 u64 u65 u66 u67 u68 u69 u70 u71 u72 u73 u74 u75 u76 u77 u78 u79 u80 u81 u82 u83 u84 u85 u86 u87 u88 u89 u90 u91 u92 u93 u94 u95 u96 u97 u98 u99 u100 u101 u102 u103 u104 u105 u106 u107 u108 u109 u110 u111 u112 u113 u114 u115 u116 u117 u118 u119 u120 u121 u122 u123 u124 u125 u126 u127 u128 c8 : Value) (g kC : Nat) (L : List TrV) (vT : Value) (W : World), TrsI w0 b bl N k lg tr gp vt w g kC L vT W → K ⟨(.pointer (some ⟨b, 0, none⟩) :: s1 :: s2 :: s3 :: s4 :: .pointer (some ⟨bl, 0, none⟩) :: s6 :: .int .i64 N :: c8 :: u9 :: u10 :: u11 :: u12 :: u13 :: u14 :: s15 :: s16 :: s17 :: s18 :: s19 :: s20 :: s21 :: s22 :: s23 :: s24 :: s25 :: s26 :: s27 :: s28 :: s29 :: s30 :: s31 :: s32 :: s33 :: s34 :: s35 :: s36 :: s37 :: s38 :: s39 :: s40 :: s41 :: s42 :: s43 :: u44 :: u45 :: u46 :: u47 :: u48 :: u49 :: u50 :: u51 :: u52 :: u53 :: u54 :: u55 :: u56 :: u57 :: u58 :: u59 :: u60 :: u61 :: u62 :: u63 :: u64 :: u65 :: u66 :: u67 :: u68 :: u69 :: u70 :: u71 :: u72 :: u73 :: u74 :: u75 :: u76 :: u77 :: u78 :: u79 :: u80 :: u81 :: u82 :: u83 :: u84 :: u85 :: u86 :: u87 :: u88 :: u89 :: u90 :: u91 :: u92 :: u93 :: u94 :: u95 :: u96 :: u97 :: u98 :: u99 :: u100 :: u101 :: u102 :: u103 :: u104 :: u105 :: u106 :: u107 :: u108 :: u109 :: u110 :: u111 :: u112 :: u113 :: u114 :: u115 :: u116 :: u117 :: u118 :: u119 :: u120 :: u121 :: u122 :: u123 :: u124 :: u125 :: u126 :: u127 :: u128 :: s129 :: []).toArray, []⟩ W)
    (hk : k ≤ 1000) (hN : 2 ≤ N ∧ N ≤ 5) (hlg : lg ≤ 9) (hbl : b < bl) (hblw : w.heap.size < bl) (hbw : b < w.heap.size)
    (hI : TrsI w0 b bl N k lg tr gp vt w g0 kC0 [] (.slice none 0 0) w3) :
    Code.wp Tryd.prog (Code.loop lineTrs) (Exit.inBlock 2 (Exit.then K Q)) ⟨(.pointer (some ⟨b, 0, none⟩) :: s1 :: s2 :: s3 :: s4 :: .pointer (some ⟨bl, 0, none⟩) :: s6 :: .int .i64 N :: .int .i64 g0 :: s9 :: s10 :: s11 :: s12 :: s13 :: s14 :: s15 :: s16 :: s17 :: s18 :: s19 :: s20 :: s21 :: s22 :: s23 :: s24 :: s25 :: s26 :: s27 :: s28 :: s29 :: s30 :: s31 :: s32 :: s33 :: s34 :: s35 :: s36 :: s37 :: s38 :: s39 :: s40 :: s41 :: s42 :: s43 :: s44 :: s45 :: s46 :: s47 :: s48 :: s49 :: s50 :: s51 :: s52 :: s53 :: s54 :: s55 :: s56 :: s57 :: s58 :: s59 :: s60 :: s61 :: s62 :: s63 :: s64 :: s65 :: s66 :: s67 :: s68 :: s69 :: s70 :: s71 :: s72 :: s73 :: s74 :: s75 :: s76 :: s77 :: s78 :: s79 :: s80 :: s81 :: s82 :: s83 :: s84 :: s85 :: s86 :: s87 :: s88 :: s89 :: s90 :: s91 :: s92 :: s93 :: s94 :: s95 :: s96 :: s97 :: s98 :: s99 :: s100 :: s101 :: s102 :: s103 :: s104 :: s105 :: s106 :: s107 :: s108 :: s109 :: s110 :: s111 :: s112 :: s113 :: s114 :: s115 :: s116 :: s117 :: s118 :: s119 :: s120 :: s121 :: s122 :: s123 :: s124 :: s125 :: s126 :: s127 :: s128 :: s129 :: []).toArray, []⟩ w3 := by
  conv => arg 2; arg 1; whnf
  have hK' : Hid _ := hK
  clear hK
  go_loopw [8] (fun c8 wr => ∃ (g kC : Nat) (L : List TrV) (vT : Value), c8 = .int .i64 g ∧ TrsI w0 b bl N k lg tr gp vt w g kC L vT wr) (fun c8 _ => (intOf c8).toNat)
  case atStart => exact ⟨g0, kC0, [], _, rfl, hI⟩
  case round =>
    clear hI
    obtain ⟨g, kC, L, vT, rfl, hT⟩ := hrel
    have hsum := hT.sum
    have hkC := hT.more
    have hL5 := hT.len
    obtain ⟨aT, cT, rfl, _⟩ := hT.box.own.trs.trains (fun x hx => by
      have h1 : x.1.legs.length ≤ (L.map fun x => x.1.legs.length).sum := le_sum (List.mem_map.2 ⟨x, hx, rfl⟩)
      unfold maxLen; omega)
    have q2 := hT.box.c2
    by_cases hg : 0 < g ∧ L.length < 5
    · have hg1 : (0 : Int) < (g : Int) := by omega
      have hg2 : (L.length : Int) < 5 := by omega
      have hP1 := pick_any w0 b kC N wr (by omega) (by omega) hT.cur
      go_wp2_with (first | (go_at_call 28; with_reducible refine hP1.mono ?_; rintro _ v1 ⟨y1, rfl, hy10, hy11, hD1, hE1⟩; have hP2 := pick_any w0 b (kC + 2) 40 v1 (by omega) (by decide) hD1) | (go_at_call 28; with_reducible refine hP2.mono ?_; rintro _ v2 ⟨y2, rfl, hy20, hy21, hD2, hE2⟩; have hP3 := pick_any w0 b (kC + 2 + 2) 4 v2 (by omega) (by decide) hD2) | (go_at_call 28; with_reducible refine hP3.mono ?_; rintro _ v3 ⟨y3, rfl, hy30, hy31, hD3, hE3⟩))
      have hM3 := (hE1.trans hE2).trans hE3
      have hA3 := b1 v3 (.cells #[.int .i64 y1, .int .i64 y2, .int .i64 0, .int .i64 (1 + y3), .slice none 0 0] 71)
      have hTB3 : TBox (v3.heap.size + 1) v3.heap.size (v3.alloc (.cells #[.int .i64 y1, .int .i64 y2, .int .i64 0, .int .i64 (1 + y3), .slice none 0 0] 71)) ⟨y1, y2, 0, 1 + y3, []⟩ (.slice none 0 0) := by
        refine ⟨?_, ?_, ?_, ?_, ?_, ?_, World.ownsRow_nil _ _ _ _, by simp [Value.ownBlock]⟩
        all_goals simp
      have hb3 : b < v3.heap.size := hD3.lt
      have hMA3 : Mid b (b + 1) v3 (v3.alloc (.cells #[.int .i64 y1, .int .i64 y2, .int .i64 0, .int .i64 (1 + y3), .slice none 0 0] 71)) := Mid.ofBelow hA3 (by omega)
      have hRm3 : Room v3.heap.size 5 (v3.alloc (.cells #[.int .i64 y1, .int .i64 y2, .int .i64 0, .int .i64 (1 + y3), .slice none 0 0] 71)) := Room.lit v3 _ _ 5 (by simp)
      refine (pick_any w0 b (kC + 2 + 2 + 2) 2 _ (by omega) (by decide) (hD3.later hA3)).mono ?_
      rintro _ v4 ⟨y4, rfl, hy40, hy41, hD4, hE4⟩
      have hTB4 := hTB3.mid hE4 (by omega) (by omega)
      have hRm4 := hRm3.keep hE4
      have t0 := hTB4.c0
      have t1 := hTB4.c1
      dsimp only at t0 t1
      have hP5 := pick_any w0 b (kC + 2 + 2 + 2 + 2) 4 v4 (by omega) (by decide) hD4
      obtain ⟨bt, hbt0⟩ : ∃ bt, bt = v3.heap.size := ⟨_, rfl⟩
      rw [← hbt0] at hTB4 hRm4 hb3 t0 t1 ⊢
      have hbt : Hid (bt = v3.heap.size) := hbt0
      have hMv4 := hMA3.trans hE4
      clear hbt0 hTB3 hP1 hP2 hP3 hD1 hD2 hD3 hE1 hE2 hE3 hA3 hMA3 hE4 hRm3 q2
      go_wp2_with (go_at_call 28; with_reducible refine hP5.mono ?_; rintro _ v5 ⟨y5, rfl, hy50, hy51, hD5, hE5⟩)
      have hTB5 := hTB4.mid hE5 (by omega) hb3
      have hRm5 := hRm4.keep hE5
      have hMv5 := hMv4.trans hE5
      obtain ⟨k0, hk0⟩ : ∃ k0 : Nat, 1 + y5 = (k0 : Int) := ⟨(1 + y5).toNat, by omega⟩
      have hk04 : 1 ≤ k0 ∧ k0 ≤ 4 := by omega
      have hy1N : 0 ≤ y1 ∧ y1 < N := by omega
      clear hP5 hTB4 hD4 hE5 hMv4 t0 t1
      rw [hk0]
      rename_i Kz az
      refine line_legs w0 b bt N kC g k0 y1 y2 y3 y4 v3 v5 Kz _ ?_ (by omega) hN (by omega) hk04 hb3 hbt.out ⟨hTB5, ⟨rfl, rfl, rfl⟩, by simp, by simp, Walk.nil, hy1N, by omega, by dsimp only [List.length_nil]; omega, hD5, by dsimp only [List.length_nil]; omega, hMv5, hRm5⟩
      intro u14 u70 u71 u72 u73 u74 u75 u76 u77 u78 u79 u80 u81 u82 u83 u84 u85 u86 u87 u88 u89 u90 u91 u92 u93 u94 u95 u96 u97 u98 u99 u100 u101 u102 u103 u104 u105 u106 u107 u108 u109 u110 c8 c10 c11 c12 c13 g' kk k3 up at' sum t lv W hI hlen e8 e12
      subst e8
      subst e12
      have hsm := hI.sum
      have hgl := hI.gl
      have hkl := hI.kl
      have hkk := hI.kk
      obtain ⟨la, lc, rfl, _⟩ := OwnLegs.legs hI.tb.legs
      have hLB3 := hT.box.mid hM3 hbl
      have hbl3 : bl < v3.heap.size := ltCell hLB3.c0
      obtain ⟨i0, ii, iz0, iz1, iz2⟩ := info3 Tryd.infoTrain
      have hP8 := pick_any w0 b kk 20 W (by omega) (by decide) hI.cur
      refine az _ _ ?_
      clear az hRm5 hMv5 hTB5 hD5
      go_wp2_with (go_at_call 28; with_reducible refine hP8.mono ?_; rintro _ v8 ⟨y8, rfl, hy80, hy81, hD8, hE8⟩)
      refine (pick_any w0 b (kk + 2) 8 v8 (by omega) (by decide) hD8).mono ?_
      rintro _ v9 ⟨y9, rfl, hy90, hy91, hD9, hE9⟩
      have hTB9 := (hI.tb.mid hE8 (by omega) hb3).mid hE9 (by omega) hb3
      have hMv9 := (hI.mid.trans hE8).trans hE9
      obtain ⟨_, _, z2⟩ := ((hI.room.keep hE8).keep hE9) 2 (by omega)
      have t2 := hTB9.c2
      have e2 := (hTB9.due (sum + y8 - y9)).c2
      have hv3b : v3.heap.size ≤ bt ∧ b ≤ v3.heap.size := by have := hbt.out; omega
      have hblt : bl + 1 ≤ v9.heap.size := by have := ltCell t2; dsimp only at this; omega
      by_cases hd : sum + y8 - y9 < 0
      · have hTD := (hTB9.due (sum + y8 - y9)).due 0
        have hMD := (hMv9.setNew ⟨bt, 2, none⟩ hv3b.1 hv3b.2 (.int .i64 (sum + y8 - y9))).setNew ⟨bt, 2, none⟩ hv3b.1 hv3b.2 (.int .i64 0)
        have hCD := (hD9.set ⟨bt, 2, none⟩ hb3 (.int .i64 (sum + y8 - y9))).set ⟨bt, 2, none⟩ hb3 (.int .i64 0)
        have hLD := hLB3.mid hMD hbl
        have f0 := hTD.c0
        have f1 := hTD.c1
        have f2 := hTD.c2
        have f3 := hTD.c3
        have f4 := hTD.c4
        have q2 := hLD.c2
        dsimp only at f0 f1 f2 f3 t2 e2
        go_wp2_with (at_builtin; refine wpList_append_own_at _ rfl _ _ 24 rfl (bl + 1) 71 i0 _ 5 56 Tryd.underlying24 ii iz0 iz1 iz2 rfl (by decide) _ _ _ rfl (hLD.later (b1 _ _)).own.trs.row ⟨v9.heap.size, 0, none⟩ 1 1 [.int .i64 t.frm, .int .i64 t.ready, .int .i64 0, .int .i64 t.weight, .slice la t.legs.length lc] rfl rfl (lie5 (by simp only [World.size_setCell])) (TrV_one (t := { t with due := 0 })) (by unfold maxLen; omega) (by omega) (by simp only [World.size_alloc, World.size_setCell]; omega) ?_)
        intro v' W1 hown1 hgr1 _ hloc1
        obtain ⟨gn, cn, rfl⟩ := Joins.ownsRow_form hown1 (by omega)
        obtain ⟨m2, z2'⟩ := (hLD.later (b1 _ _)).grown2 hgr1
        clear f0 f1 f2 f3 f4 q2 t2 e2 z2
        go_wp2
        go_roundw
        case rel => exact ⟨g', kk + 2 + 2, _, _, rfl, hT.step hM3 hI hbt.out hbl hblw hbw hy1N (by omega) (by omega) (by omega) hlen hMD hTD hCD ⟨Int.le_refl _, by decide⟩ hown1 hgr1 (by simpa using hloc1)⟩
        case measure => simp only [intOf]; omega
      · have hTD := hTB9.due (sum + y8 - y9)
        have hMD := hMv9.setNew ⟨bt, 2, none⟩ hv3b.1 hv3b.2 (.int .i64 (sum + y8 - y9))
        have hCD := hD9.set ⟨bt, 2, none⟩ hb3 (.int .i64 (sum + y8 - y9))
        have hLD := hLB3.mid hMD hbl
        have f0 := hTD.c0
        have f1 := hTD.c1
        have f2 := hTD.c2
        have f3 := hTD.c3
        have f4 := hTD.c4
        have q2 := hLD.c2
        dsimp only at f0 f1 f2 f3 t2 e2
        go_wp2_with (at_builtin; refine wpList_append_own_at _ rfl _ _ 24 rfl (bl + 1) 71 i0 _ 5 56 Tryd.underlying24 ii iz0 iz1 iz2 rfl (by decide) _ _ _ rfl (hLD.later (b1 _ _)).own.trs.row ⟨v9.heap.size, 0, none⟩ 1 1 [.int .i64 t.frm, .int .i64 t.ready, .int .i64 (sum + y8 - y9), .int .i64 t.weight, .slice la t.legs.length lc] rfl rfl (lie5 (by simp only [World.size_setCell])) (TrV_one (t := { t with due := (sum + y8 - y9) })) (by unfold maxLen; omega) (by omega) (by simp only [World.size_alloc, World.size_setCell]; omega) ?_)
        intro v' W1 hown1 hgr1 _ hloc1
        obtain ⟨gn, cn, rfl⟩ := Joins.ownsRow_form hown1 (by omega)
        obtain ⟨m2, z2'⟩ := (hLD.later (b1 _ _)).grown2 hgr1
        clear f0 f1 f2 f3 f4 q2 t2 e2 z2
        go_wp2
        go_roundw
        case rel => exact ⟨g', kk + 2 + 2, _, _, rfl, hT.step hM3 hI hbt.out hbl hblw hbw hy1N (by omega) (by omega) (by omega) hlen hMD hTD hCD (by omega) hown1 hgr1 (by simpa using hloc1)⟩
        case measure => simp only [intOf]; omega
    · have hcases : (¬ ((0 : Int) < (g : Int))) ∨ ((0 : Int) < (g : Int) ∧ ¬ ((L.length : Int) < 5)) := by omega
      rcases hcases with hg1 | ⟨hg1, hg2⟩
      all_goals
        go_wp2
        apply hK'.out
        exact hT
end Go.Proofs.YtnjaegeapcijpaaDoor


namespace Go.Proofs.YtnjaegeapcijpaaDoor
open Go.RowKit

theorem LBox.track {B0 bl : Nat} {W W1 : World} {tr : List Int} {gap z : Int} {vt v' : Value} (h : LBox B0 bl W tr gap [] vt (.slice none 0 0)) (ho : W1.ownsRow B0 3 1 v' (tr.length + 1) (intCells tr ++ [.int .i64 z])) (hg : W.grownBy W1 vt.ownBlock) : LBox B0 bl (W1.setCell ⟨bl, 0, none⟩ v') (tr ++ [z]) gap [] v' (.slice none 0 0) := by
  have hlt := h.lt
  have hlb := ltCell h.c0
  dsimp only at hlb
  have hb : W1.heap[bl]? = W.heap[bl]? := hg.block bl hlb (fun e => by have := (h.own.ints.lt bl e.symm).1; omega)
  have cc : ∀ o u, W.cell? ⟨bl, o, none⟩ = some u → W1.cell? ⟨bl, o, none⟩ = some u := fun o u hu => (World.cell?_of_block (w := W) (w' := W1) (a := ⟨bl, o, none⟩) hb).trans hu
  have zz : ∀ o, W.frozen? ⟨bl, o, none⟩ = false → W1.frozen? ⟨bl, o, none⟩ = false := fun o hu => (World.frozen?_of_block (w := W) (w' := W1) (a := ⟨bl, o, none⟩) hb).trans hu
  refine ⟨World.cell?_setCell_same _ _ _ (cc 0 _ h.c0), (cell_set_ne (by omega)).trans (cc 1 _ h.c1), (cell_set_ne (by omega)).trans (cc 2 _ h.c2), (World.frozen?_setCell ..).trans (zz 0 h.z0), (World.frozen?_setCell ..).trans (zz 1 h.z1), (World.frozen?_setCell ..).trans (zz 2 h.z2), hlt, ⟨?_, OwnT.nil _ _, fun k _ e => by simp [Value.ownBlock] at e, fun x hx => absurd hx List.not_mem_nil⟩⟩
  rw [intCells_snoc, List.length_append]
  exact ownsRow_setCell_below ho hlt _

/-- what a draw of a line answers -/
def DrawPost (w0 : World) (b k : Nat) (w : World) (e : Ending) (w' : World) : Prop := ∃ l : LnL, DrawnL l ∧ (∃ L at_ ct aT cT, l.trains = L.map Prod.fst ∧ e = .returned (.agg #[.slice at_ l.tracks.length ct, .int .i64 l.gap, .slice aT L.length cT]) ∧ LOwn w.heap.size w' l.tracks L (.slice at_ l.tracks.length ct) (.slice aT L.length cT)) ∧ Cur w0 b (k + 1000) w' ∧ Mid b (b + 1) w w'
set_option maxRecDepth 20000 in
set_option maxHeartbeats 8000000 in
theorem drawLine_any (w0 : World) (b k : Nat) (most : Int) (w : World) (hk : k ≤ 1000) (hm0 : 2 ≤ most) (hm1 : most ≤ 9) (hC : Cur w0 b k w) :
    Calls Tryd.prog 10 #[.pointer (some ⟨b, 0, none⟩), .int .i64 most] w (DrawPost w0 b k w) := by
  have hblt : b < w.heap.size := hC.lt
  have hA := b1 w (.cells #[.slice none 0 0, .int .i64 0, .slice none 0 0] 26)
  have hroom : Room w.heap.size 3 (w.alloc (.cells #[.slice none 0 0, .int .i64 0, .slice none 0 0] 26)) := Room.lit _ _ _ 3 (by simp)
  have hMA : Mid b (b + 1) w (w.alloc (.cells #[.slice none 0 0, .int .i64 0, .slice none 0 0] 26)) := Mid.ofBelow hA (by omega)
  have hP1 := pick_any w0 b k 5 _ (by omega) (by decide) (hC.later hA)
  have hsA : (w.alloc (.cells #[.slice none 0 0, .int .i64 0, .slice none 0 0] 26)).heap.size = w.heap.size + 1 := by simp
  go_enter Tryd.func10, Tryd.ntmps10
  go_wp2_with (go_at_call 28; with_reducible refine hP1.mono ?_; rintro _ w1 ⟨gp, rfl, hg0, hg1, hC1, hM1⟩)
  have hs1 := hM1.below.size
  have hroom1 := hroom.keep hM1
  have hN1 := b1 w1 (.cells #[.slice none 0 0, .int .i64 gp, .slice none 0 0] 26)
  have hP2 := pick_any w0 b (k + 2) 4 _ (by omega) (by decide) (hC1.later hN1)
  refine hP2.mono ?_
  rintro _ w2 ⟨x2, rfl, hx0, hx1, hC2, hM2⟩
  have hN := hx1
  have hs2 := hM2.below.size
  have hLB : LBox (w1.heap.size + 1) w1.heap.size (w1.alloc (.cells #[.slice none 0 0, .int .i64 gp, .slice none 0 0] 26)) [] gp [] (.slice none 0 0) (.slice none 0 0) := by
    refine ⟨?_, ?_, ?_, ?_, ?_, ?_, by omega, ⟨World.ownsRow_nil _ _ _ _, OwnT.nil _ _, fun k e => by simp [Value.ownBlock] at e, fun x hx => absurd hx List.not_mem_nil⟩⟩
    all_goals simp
  have hsN : (w1.alloc (.cells #[.slice none 0 0, .int .i64 gp, .slice none 0 0] 26)).heap.size = w1.heap.size + 1 := by simp
  have hb1 : b < w1.heap.size := by omega
  have hLB2 := hLB.mid hM2 hb1
  have hMd2 : Mid b (b + 1) w w2 := ((hMA.trans hM1).trans (Mid.ofBelow hN1 (by omega))).trans hM2
  have hroom2 := (hroom1.keep (Mid.ofBelow (lo := 0) (hi := 0) hN1 (Nat.zero_le _))).keep hM2
  obtain ⟨N, hN0⟩ : ∃ N : Nat, 2 + x2 = (N : Int) := ⟨(2 + x2).toNat, by omega⟩
  have hN1' : 2 ≤ N ∧ N ≤ 5 := by omega
  obtain ⟨bl, hbl0⟩ : ∃ bl, bl = w1.heap.size := ⟨_, rfl⟩
  rw [← hbl0] at hLB2 ⊢
  have hblb : b < bl := by omega
  have hblw : w.heap.size < bl := by omega
  clear hbl0 hLB hC1 hM1 hN1 hP1 hP2 hroom hroom1 hMA hA hsA hs1 hs2 hM2 hC hsN hb1
  go_wp2
  go_loopw [6] (fun cc wr => ∃ (c kk : Nat) (tr : List Int) (vt : Value), cc = .int .i64 c ∧ tr.length + c = N ∧ kk ≤ k + 4 + 4 * tr.length ∧ (∀ z ∈ tr, 1 ≤ z ∧ z ≤ 3) ∧ LBox (bl + 1) bl wr tr gp [] vt (.slice none 0 0) ∧ Cur w0 b kk wr ∧ Mid b (b + 1) w wr ∧ Room w.heap.size 3 wr) (fun cc _ => (intOf cc).toNat)
  case atStart => exact ⟨N, k + 4, [], _, rfl, by simp, by simp, fun z hz => absurd hz List.not_mem_nil, hLB2, hC2.more (by omega), hMd2, hroom2⟩
  case round =>
    obtain ⟨c, kk, tr, vt, rfl, htc, hkk, htr, hLBr, hCr, hMr, hroomr⟩ := hrel
    by_cases hc : 0 < c
    · have hc' : (0 : Int) < (c : Int) := by omega
      obtain ⟨at_, ct, rfl, _⟩ := ownInts hLBr.own.ints
      obtain ⟨i0, ii, iz0, iz1, iz2⟩ := info3 Tryd.infoInt
      have hbd : Below wr.heap.size wr wr.drew := (Below.refl _ wr).drew
      have hLBd := hLBr.later hbd
      have q0 := hLBr.c0
      have hK1 := pick_any w0 b kk 3 wr.drew (by omega) (by decide) (hCr.later hbd)
      go_wp2
      refine wp_region_held_drew (S := (fun _ => True)) (by kernel_rfl) trivial (fun hHeld => ?_)
      refine wpAnyH_take (i := 0) (oi := { dst := some 25, op := Go.Op.fieldAddr 26 (Go.Operand.tmp 5) 0, type := 0, pos := "l5_draw.go:51", after := #[], guard := none }) (v := ?vv1_0) rfl (by kernel_rfl) (by kernel_rfl) (by kernel_rfl) (fun _ _ _ h => h) (Or.inl ⟨by rfl, ?hy1_0⟩) (by assumption) ?rest1_0
      case hy1_0 =>
        intro w hSw
        (try dsimp only at hSw)
        go_simp
        (try with_reducible rfl)
      simp only [Act.put, List.setIfInBounds_toArray, List.set_cons_zero, List.set_cons_succ]
      refine wpAnyH_take (i := 2) (oi := { dst := some 27, op := Go.Op.move (Go.Operand.tmp 0), type := 40, pos := "l5_draw.go:51", after := #[], guard := none }) (v := ?vv2_2) rfl (by kernel_rfl) (by kernel_rfl) (by kernel_rfl) (fun _ _ _ h => h) (Or.inl ⟨by rfl, ?hy2_2⟩) (by assumption) ?rest2_2
      case hy2_2 =>
        intro w hSw
        (try dsimp only at hSw)
        go_simp
        (try with_reducible rfl)
      simp only [Act.put, List.setIfInBounds_toArray, List.set_cons_zero, List.set_cons_succ]
      refine wpAnyH_take (i := 4) (oi := { dst := some 29, op := Go.Op.move (Go.Operand.tmp 0), type := 40, pos := "l5_draw.go:51", after := #[], guard := none }) (v := ?vv3_4) rfl (by kernel_rfl) (by kernel_rfl) (by kernel_rfl) (fun _ _ _ h => h) (Or.inl ⟨by rfl, ?hy3_4⟩) (by assumption) ?rest3_4
      case hy3_4 =>
        intro w hSw
        (try dsimp only at hSw)
        go_simp
        (try with_reducible rfl)
      simp only [Act.put, List.setIfInBounds_toArray, List.set_cons_zero, List.set_cons_succ]
      refine wpAnyH_ready (rs := [1, 3]) (by kernel_rfl) (by simp) ?_
      refine AllReadyH.cons (o := { dst := some 26, op := Go.Op.load 23 (Go.Operand.tmp 25), type := 23, pos := "l5_draw.go:51", after := #[{ on := 0, ground := Go.Ground.data }], guard := none }) rfl (fun K hK => ?_) (AllReadyH.cons (o := { dst := some 28, op := Go.Op.call { callee := Go.Callee.value (Go.Operand.func 28), args := #[Go.Operand.tmp 27, Go.Operand.const (Go.Value.int Go.IntKind.i64 3)], argTypes := #[40, 3] }, type := 3, pos := "l5_draw.go:51", after := #[{ on := 2, ground := Go.Ground.data }], guard := none }) rfl (fun K hK => ?_) AllReadyH.nil)
      go_simp
      refine hK.out _ _ trivial (fun hHeld => ?_)
      clear hK K
      (try simp only [Act.put, List.setIfInBounds_toArray, List.set_cons_zero, List.set_cons_succ])
      refine wpAnyH_ready (rs := [3]) (by kernel_rfl) (by simp) ?_
      refine AllReadyH.cons (o := { dst := some 28, op := Go.Op.call { callee := Go.Callee.value (Go.Operand.func 28), args := #[Go.Operand.tmp 27, Go.Operand.const (Go.Value.int Go.IntKind.i64 3)], argTypes := #[40, 3] }, type := 3, pos := "l5_draw.go:51", after := #[{ on := 2, ground := Go.Ground.data }], guard := none }) rfl (fun K hK => ?_) AllReadyH.nil
      go_simp
      refine hK1.mono ?_
      rintro _ w3 ⟨x, rfl, hx30, hx31, hC3, hM3⟩
      have hLB3 := hLBd.mid hM3 hblb
      have q3 := hLB3.c0
      have hK2 := pick_any w0 b (kk + 2) 2 w3 (by omega) (by decide) hC3
      refine hK.out _ _ trivial (fun hHeld => ?_)
      clear hK K
      (try simp only [Act.put, List.setIfInBounds_toArray, List.set_cons_zero, List.set_cons_succ])
      refine wpAnyH_ready (rs := [5]) (by kernel_rfl) (by simp) ?_
      refine AllReadyH.cons (o := { dst := some 30, op := Go.Op.call { callee := Go.Callee.value (Go.Operand.func 28), args := #[Go.Operand.tmp 29, Go.Operand.const (Go.Value.int Go.IntKind.i64 2)], argTypes := #[40, 3] }, type := 3, pos := "l5_draw.go:51", after := #[{ on := 4, ground := Go.Ground.data }, { on := 3, ground := Go.Ground.chain }], guard := none }) rfl (fun K hK => ?_) AllReadyH.nil
      go_simp
      refine hK2.mono ?_
      rintro _ w4 ⟨y, rfl, hy0, hy1, hC4, hM4⟩
      have hLB4 := hLB3.mid hM4 hblb
      have q4 := hLB4.c0
      have hxy0 : 0 ≤ x * y := Int.mul_nonneg hx30 hy0
      have hxy1 : x * y ≤ 2 := by
        rcases hy1 with hy1 | rfl
        · have : y = 0 ∨ y = 1 := by omega
          rcases this with rfl | rfl <;> omega
        · omega
      have hwp : IntKind.i64.wrap (x * y) = x * y := by rw [IntKind.wrap_i64]; omega
      have hwq : IntKind.i64.wrap (1 + x * y) = 1 + x * y := by rw [IntKind.wrap_i64]; omega
      have hA9 := b1 w4 (.cells #[.int .i64 (1 + x * y)] 3)
      have hLBA := hLB4.later hA9
      have q4' := hLBA.c0
      have hsz4 := ltCell hLB4.c0
      dsimp only at hsz4
      obtain ⟨v', W1, hap, hown1, hgr1, _, hloc1⟩ := run_append_own_at (P := Tryd.prog) (w4.alloc (.cells #[.int .i64 (1 + x * y)] 3)) (bl + 1) 23 23 3 i0 _ 1 8 Tryd.underlying23 ii iz0 iz1 iz2 rfl (by decide) (.slice at_ tr.length ct) tr.length (intCells tr) hLBA.own.ints ⟨w4.heap.size, 0, none⟩ 1 1 [.int .i64 (1 + x * y)] rfl cells1_lie one1 (by unfold maxLen; omega) (by omega) (by simp only [World.size_alloc]; omega)
      have hap' : Hid _ := hap
      obtain ⟨gn, cn, rfl⟩ := Joins.ownsRow_form hown1 (by omega)
      have hbk : W1.heap[bl]? = _ := hgr1.block bl (ltCell hLBA.c0) (fun e => by have := (hLBA.own.ints.lt bl e.symm).1; omega)
      have m3 := (World.cell?_of_block (w' := W1) (a := ⟨bl, 0, none⟩) hbk).trans hLBA.c0
      have mz := (World.frozen?_of_block (w' := W1) (a := ⟨bl, 0, none⟩) hbk).trans hLBA.z0
      clear hap hbk
      refine hK.out _ _ trivial (fun hHeld => ?_)
      clear hK K
      (try simp only [Act.put, List.setIfInBounds_toArray, List.set_cons_zero, List.set_cons_succ])
      refine wpAnyH_take (i := 6) (oi := { dst := some 31, op := Go.Op.binOp Go.BinOp.mul 3 (Go.Operand.tmp 28) (Go.Operand.tmp 30) 3, type := 3, pos := "l5_draw.go:51", after := #[{ on := 3, ground := Go.Ground.data }, { on := 5, ground := Go.Ground.data }], guard := none }) (v := ?vv4_6) rfl (by kernel_rfl) (by kernel_rfl) (by kernel_rfl) (fun _ _ _ h => h) (Or.inl ⟨by rfl, ?hy4_6⟩) (by assumption) ?rest4_6
      case hy4_6 =>
        intro w hSw
        (try dsimp only at hSw)
        go_simp
        (try with_reducible rfl)
      simp only [Act.put, List.setIfInBounds_toArray, List.set_cons_zero, List.set_cons_succ]
      refine wpAnyH_take (i := 7) (oi := { dst := some 32, op := Go.Op.binOp Go.BinOp.add 3 (Go.Operand.const (Go.Value.int Go.IntKind.i64 1)) (Go.Operand.tmp 31) 3, type := 3, pos := "l5_draw.go:51", after := #[{ on := 6, ground := Go.Ground.data }], guard := none }) (v := ?vv5_7) rfl (by kernel_rfl) (by kernel_rfl) (by kernel_rfl) (fun _ _ _ h => h) (Or.inl ⟨by rfl, ?hy5_7⟩) (by assumption) ?rest5_7
      case hy5_7 =>
        intro w hSw
        (try dsimp only at hSw)
        go_simp
        (try with_reducible rfl)
      simp only [Act.put, List.setIfInBounds_toArray, List.set_cons_zero, List.set_cons_succ]
      refine wpAnyH_ready (rs := [8]) (by kernel_rfl) (by simp) ?_
      refine AllReadyH.cons (o := { dst := some 33, op := Go.Op.buildSlice 23 1 #[(0, Go.Operand.tmp 32)], type := 23, pos := "l5_draw.go:51", after := #[{ on := 7, ground := Go.Ground.data }], guard := none }) rfl (fun K hK => ?_) AllReadyH.nil
      go_simp
      refine hK.out _ _ trivial (fun hHeld => ?_)
      clear hK K
      (try simp only [Act.put, List.setIfInBounds_toArray, List.set_cons_zero, List.set_cons_succ])
      refine wpAnyH_ready (rs := [9]) (by kernel_rfl) (by simp) ?_
      refine AllReadyH.cons (o := { dst := some 34, op := Go.Op.call { callee := Go.Callee.builtin Go.Builtin.append, args := #[Go.Operand.tmp 26, Go.Operand.tmp 33], argTypes := #[23, 23] }, type := 23, pos := "l5_draw.go:51", after := #[{ on := 1, ground := Go.Ground.data }, { on := 8, ground := Go.Ground.data }, { on := 5, ground := Go.Ground.chain }], guard := none }) rfl (fun K hK => ?_) AllReadyH.nil
      refine step_append_eq _ (by rfl) _ _ _ (by rfl) _ _ _ _ (by rfl) (by rfl) hap'.out ?_
      refine hK.out _ _ trivial (fun hHeld => ?_)
      clear hK K
      (try simp only [Act.put, List.setIfInBounds_toArray, List.set_cons_zero, List.set_cons_succ])
      refine wpAnyH_take (i := 10) (oi := { dst := some 35, op := Go.Op.fieldAddr 26 (Go.Operand.tmp 5) 0, type := 0, pos := "l5_draw.go:51", after := #[{ on := 0, ground := Go.Ground.phase }, { on := 1, ground := Go.Ground.phase }, { on := 2, ground := Go.Ground.phase }, { on := 3, ground := Go.Ground.phase }, { on := 4, ground := Go.Ground.phase }, { on := 5, ground := Go.Ground.phase }, { on := 6, ground := Go.Ground.phase }, { on := 7, ground := Go.Ground.phase }, { on := 8, ground := Go.Ground.phase }, { on := 9, ground := Go.Ground.phase }], guard := none }) (v := ?vv6_10) rfl (by kernel_rfl) (by kernel_rfl) (by kernel_rfl) (fun _ _ _ h => h) (Or.inl ⟨by rfl, ?hy6_10⟩) (by assumption) ?rest6_10
      case hy6_10 =>
        intro w hSw
        (try dsimp only at hSw)
        go_simp
        (try with_reducible rfl)
      simp only [Act.put, List.setIfInBounds_toArray, List.set_cons_zero, List.set_cons_succ]
      refine wpAnyH_ready (rs := [11]) (by kernel_rfl) (by simp) ?_
      refine AllReadyH.cons (o := { dst := none, op := Go.Op.store 23 (Go.Operand.tmp 35) (Go.Operand.tmp 34), type := 0, pos := "l5_draw.go:51", after := #[{ on := 10, ground := Go.Ground.data }, { on := 9, ground := Go.Ground.data }, { on := 9, ground := Go.Ground.chain }, { on := 0, ground := Go.Ground.phase }, { on := 1, ground := Go.Ground.phase }, { on := 2, ground := Go.Ground.phase }, { on := 3, ground := Go.Ground.phase }, { on := 4, ground := Go.Ground.phase }, { on := 5, ground := Go.Ground.phase }, { on := 6, ground := Go.Ground.phase }, { on := 7, ground := Go.Ground.phase }, { on := 8, ground := Go.Ground.phase }, { on := 9, ground := Go.Ground.phase }], guard := none }) rfl (fun K hK => ?_) AllReadyH.nil
      go_simp
      refine hK.out _ _ trivial (fun hHeld => ?_)
      clear hK K
      (try simp only [Act.put, List.setIfInBounds_toArray, List.set_cons_zero, List.set_cons_succ])
      refine wpAnyH_done (by kernel_rfl) ?_ _
      rotate_left
      go_simp
      refine hK1.mono ?_
      rintro _ w3 ⟨x, rfl, hx30, hx31, hC3, hM3⟩
      have hLB3 := hLBd.mid hM3 hblb
      have q3 := hLB3.c0
      have hK2 := pick_any w0 b (kk + 2) 2 w3 (by omega) (by decide) hC3
      refine hK.out _ _ trivial (fun hHeld => ?_)
      clear hK K
      (try simp only [Act.put, List.setIfInBounds_toArray, List.set_cons_zero, List.set_cons_succ])
      refine wpAnyH_ready (rs := [1, 5]) (by kernel_rfl) (by simp) ?_
      refine AllReadyH.cons (o := { dst := some 26, op := Go.Op.load 23 (Go.Operand.tmp 25), type := 23, pos := "l5_draw.go:51", after := #[{ on := 0, ground := Go.Ground.data }], guard := none }) rfl (fun K hK => ?_) (AllReadyH.cons (o := { dst := some 30, op := Go.Op.call { callee := Go.Callee.value (Go.Operand.func 28), args := #[Go.Operand.tmp 29, Go.Operand.const (Go.Value.int Go.IntKind.i64 2)], argTypes := #[40, 3] }, type := 3, pos := "l5_draw.go:51", after := #[{ on := 4, ground := Go.Ground.data }, { on := 3, ground := Go.Ground.chain }], guard := none }) rfl (fun K hK => ?_) AllReadyH.nil)
      go_simp
      refine hK.out _ _ trivial (fun hHeld => ?_)
      clear hK K
      (try simp only [Act.put, List.setIfInBounds_toArray, List.set_cons_zero, List.set_cons_succ])
      refine wpAnyH_ready (rs := [5]) (by kernel_rfl) (by simp) ?_
      refine AllReadyH.cons (o := { dst := some 30, op := Go.Op.call { callee := Go.Callee.value (Go.Operand.func 28), args := #[Go.Operand.tmp 29, Go.Operand.const (Go.Value.int Go.IntKind.i64 2)], argTypes := #[40, 3] }, type := 3, pos := "l5_draw.go:51", after := #[{ on := 4, ground := Go.Ground.data }, { on := 3, ground := Go.Ground.chain }], guard := none }) rfl (fun K hK => ?_) AllReadyH.nil
      go_simp
      refine hK2.mono ?_
      rintro _ w4 ⟨y, rfl, hy0, hy1, hC4, hM4⟩
      have hLB4 := hLB3.mid hM4 hblb
      have q4 := hLB4.c0
      have hxy0 : 0 ≤ x * y := Int.mul_nonneg hx30 hy0
      have hxy1 : x * y ≤ 2 := by
        rcases hy1 with hy1 | rfl
        · have : y = 0 ∨ y = 1 := by omega
          rcases this with rfl | rfl <;> omega
        · omega
      have hwp : IntKind.i64.wrap (x * y) = x * y := by rw [IntKind.wrap_i64]; omega
      have hwq : IntKind.i64.wrap (1 + x * y) = 1 + x * y := by rw [IntKind.wrap_i64]; omega
      have hA9 := b1 w4 (.cells #[.int .i64 (1 + x * y)] 3)
      have hLBA := hLB4.later hA9
      have q4' := hLBA.c0
      have hsz4 := ltCell hLB4.c0
      dsimp only at hsz4
      obtain ⟨v', W1, hap, hown1, hgr1, _, hloc1⟩ := run_append_own_at (P := Tryd.prog) (w4.alloc (.cells #[.int .i64 (1 + x * y)] 3)) (bl + 1) 23 23 3 i0 _ 1 8 Tryd.underlying23 ii iz0 iz1 iz2 rfl (by decide) (.slice at_ tr.length ct) tr.length (intCells tr) hLBA.own.ints ⟨w4.heap.size, 0, none⟩ 1 1 [.int .i64 (1 + x * y)] rfl cells1_lie one1 (by unfold maxLen; omega) (by omega) (by simp only [World.size_alloc]; omega)
      have hap' : Hid _ := hap
      obtain ⟨gn, cn, rfl⟩ := Joins.ownsRow_form hown1 (by omega)
      have hbk : W1.heap[bl]? = _ := hgr1.block bl (ltCell hLBA.c0) (fun e => by have := (hLBA.own.ints.lt bl e.symm).1; omega)
      have m3 := (World.cell?_of_block (w' := W1) (a := ⟨bl, 0, none⟩) hbk).trans hLBA.c0
      have mz := (World.frozen?_of_block (w' := W1) (a := ⟨bl, 0, none⟩) hbk).trans hLBA.z0
      clear hap hbk
      refine hK.out _ _ trivial (fun hHeld => ?_)
      clear hK K
      (try simp only [Act.put, List.setIfInBounds_toArray, List.set_cons_zero, List.set_cons_succ])
      refine wpAnyH_take (i := 6) (oi := { dst := some 31, op := Go.Op.binOp Go.BinOp.mul 3 (Go.Operand.tmp 28) (Go.Operand.tmp 30) 3, type := 3, pos := "l5_draw.go:51", after := #[{ on := 3, ground := Go.Ground.data }, { on := 5, ground := Go.Ground.data }], guard := none }) (v := ?vv7_6) rfl (by kernel_rfl) (by kernel_rfl) (by kernel_rfl) (fun _ _ _ h => h) (Or.inl ⟨by rfl, ?hy7_6⟩) (by assumption) ?rest7_6
      case hy7_6 =>
        intro w hSw
        (try dsimp only at hSw)
        go_simp
        (try with_reducible rfl)
      simp only [Act.put, List.setIfInBounds_toArray, List.set_cons_zero, List.set_cons_succ]
      refine wpAnyH_take (i := 7) (oi := { dst := some 32, op := Go.Op.binOp Go.BinOp.add 3 (Go.Operand.const (Go.Value.int Go.IntKind.i64 1)) (Go.Operand.tmp 31) 3, type := 3, pos := "l5_draw.go:51", after := #[{ on := 6, ground := Go.Ground.data }], guard := none }) (v := ?vv8_7) rfl (by kernel_rfl) (by kernel_rfl) (by kernel_rfl) (fun _ _ _ h => h) (Or.inl ⟨by rfl, ?hy8_7⟩) (by assumption) ?rest8_7
      case hy8_7 =>
        intro w hSw
        (try dsimp only at hSw)
        go_simp
        (try with_reducible rfl)
      simp only [Act.put, List.setIfInBounds_toArray, List.set_cons_zero, List.set_cons_succ]
      refine wpAnyH_ready (rs := [8]) (by kernel_rfl) (by simp) ?_
      refine AllReadyH.cons (o := { dst := some 33, op := Go.Op.buildSlice 23 1 #[(0, Go.Operand.tmp 32)], type := 23, pos := "l5_draw.go:51", after := #[{ on := 7, ground := Go.Ground.data }], guard := none }) rfl (fun K hK => ?_) AllReadyH.nil
      go_simp
      refine hK.out _ _ trivial (fun hHeld => ?_)
      clear hK K
      (try simp only [Act.put, List.setIfInBounds_toArray, List.set_cons_zero, List.set_cons_succ])
      refine wpAnyH_ready (rs := [9]) (by kernel_rfl) (by simp) ?_
      refine AllReadyH.cons (o := { dst := some 34, op := Go.Op.call { callee := Go.Callee.builtin Go.Builtin.append, args := #[Go.Operand.tmp 26, Go.Operand.tmp 33], argTypes := #[23, 23] }, type := 23, pos := "l5_draw.go:51", after := #[{ on := 1, ground := Go.Ground.data }, { on := 8, ground := Go.Ground.data }, { on := 5, ground := Go.Ground.chain }], guard := none }) rfl (fun K hK => ?_) AllReadyH.nil
      refine step_append_eq _ (by rfl) _ _ _ (by rfl) _ _ _ _ (by rfl) (by rfl) hap'.out ?_
      refine hK.out _ _ trivial (fun hHeld => ?_)
      clear hK K
      (try simp only [Act.put, List.setIfInBounds_toArray, List.set_cons_zero, List.set_cons_succ])
      refine wpAnyH_take (i := 10) (oi := { dst := some 35, op := Go.Op.fieldAddr 26 (Go.Operand.tmp 5) 0, type := 0, pos := "l5_draw.go:51", after := #[{ on := 0, ground := Go.Ground.phase }, { on := 1, ground := Go.Ground.phase }, { on := 2, ground := Go.Ground.phase }, { on := 3, ground := Go.Ground.phase }, { on := 4, ground := Go.Ground.phase }, { on := 5, ground := Go.Ground.phase }, { on := 6, ground := Go.Ground.phase }, { on := 7, ground := Go.Ground.phase }, { on := 8, ground := Go.Ground.phase }, { on := 9, ground := Go.Ground.phase }], guard := none }) (v := ?vv9_10) rfl (by kernel_rfl) (by kernel_rfl) (by kernel_rfl) (fun _ _ _ h => h) (Or.inl ⟨by rfl, ?hy9_10⟩) (by assumption) ?rest9_10
      case hy9_10 =>
        intro w hSw
        (try dsimp only at hSw)
        go_simp
        (try with_reducible rfl)
      simp only [Act.put, List.setIfInBounds_toArray, List.set_cons_zero, List.set_cons_succ]
      refine wpAnyH_ready (rs := [11]) (by kernel_rfl) (by simp) ?_
      refine AllReadyH.cons (o := { dst := none, op := Go.Op.store 23 (Go.Operand.tmp 35) (Go.Operand.tmp 34), type := 0, pos := "l5_draw.go:51", after := #[{ on := 10, ground := Go.Ground.data }, { on := 9, ground := Go.Ground.data }, { on := 9, ground := Go.Ground.chain }, { on := 0, ground := Go.Ground.phase }, { on := 1, ground := Go.Ground.phase }, { on := 2, ground := Go.Ground.phase }, { on := 3, ground := Go.Ground.phase }, { on := 4, ground := Go.Ground.phase }, { on := 5, ground := Go.Ground.phase }, { on := 6, ground := Go.Ground.phase }, { on := 7, ground := Go.Ground.phase }, { on := 8, ground := Go.Ground.phase }, { on := 9, ground := Go.Ground.phase }], guard := none }) rfl (fun K hK => ?_) AllReadyH.nil
      go_simp
      refine hK.out _ _ trivial (fun hHeld => ?_)
      clear hK K
      (try simp only [Act.put, List.setIfInBounds_toArray, List.set_cons_zero, List.set_cons_succ])
      refine wpAnyH_done (by kernel_rfl) ?_ _
      rotate_left
      go_simp
      refine hK2.mono ?_
      rintro _ w4 ⟨y, rfl, hy0, hy1, hC4, hM4⟩
      have hLB4 := hLB3.mid hM4 hblb
      have q4 := hLB4.c0
      have hxy0 : 0 ≤ x * y := Int.mul_nonneg hx30 hy0
      have hxy1 : x * y ≤ 2 := by
        rcases hy1 with hy1 | rfl
        · have : y = 0 ∨ y = 1 := by omega
          rcases this with rfl | rfl <;> omega
        · omega
      have hwp : IntKind.i64.wrap (x * y) = x * y := by rw [IntKind.wrap_i64]; omega
      have hwq : IntKind.i64.wrap (1 + x * y) = 1 + x * y := by rw [IntKind.wrap_i64]; omega
      have hA9 := b1 w4 (.cells #[.int .i64 (1 + x * y)] 3)
      have hLBA := hLB4.later hA9
      have q4' := hLBA.c0
      have hsz4 := ltCell hLB4.c0
      dsimp only at hsz4
      obtain ⟨v', W1, hap, hown1, hgr1, _, hloc1⟩ := run_append_own_at (P := Tryd.prog) (w4.alloc (.cells #[.int .i64 (1 + x * y)] 3)) (bl + 1) 23 23 3 i0 _ 1 8 Tryd.underlying23 ii iz0 iz1 iz2 rfl (by decide) (.slice at_ tr.length ct) tr.length (intCells tr) hLBA.own.ints ⟨w4.heap.size, 0, none⟩ 1 1 [.int .i64 (1 + x * y)] rfl cells1_lie one1 (by unfold maxLen; omega) (by omega) (by simp only [World.size_alloc]; omega)
      have hap' : Hid _ := hap
      obtain ⟨gn, cn, rfl⟩ := Joins.ownsRow_form hown1 (by omega)
      have hbk : W1.heap[bl]? = _ := hgr1.block bl (ltCell hLBA.c0) (fun e => by have := (hLBA.own.ints.lt bl e.symm).1; omega)
      have m3 := (World.cell?_of_block (w' := W1) (a := ⟨bl, 0, none⟩) hbk).trans hLBA.c0
      have mz := (World.frozen?_of_block (w' := W1) (a := ⟨bl, 0, none⟩) hbk).trans hLBA.z0
      clear hap hbk
      refine hK.out _ _ trivial (fun hHeld => ?_)
      clear hK K
      (try simp only [Act.put, List.setIfInBounds_toArray, List.set_cons_zero, List.set_cons_succ])
      refine wpAnyH_take (i := 6) (oi := { dst := some 31, op := Go.Op.binOp Go.BinOp.mul 3 (Go.Operand.tmp 28) (Go.Operand.tmp 30) 3, type := 3, pos := "l5_draw.go:51", after := #[{ on := 3, ground := Go.Ground.data }, { on := 5, ground := Go.Ground.data }], guard := none }) (v := ?vv10_6) rfl (by kernel_rfl) (by kernel_rfl) (by kernel_rfl) (fun _ _ _ h => h) (Or.inl ⟨by rfl, ?hy10_6⟩) (by assumption) ?rest10_6
      case hy10_6 =>
        intro w hSw
        (try dsimp only at hSw)
        go_simp
        (try with_reducible rfl)
      simp only [Act.put, List.setIfInBounds_toArray, List.set_cons_zero, List.set_cons_succ]
      refine wpAnyH_take (i := 7) (oi := { dst := some 32, op := Go.Op.binOp Go.BinOp.add 3 (Go.Operand.const (Go.Value.int Go.IntKind.i64 1)) (Go.Operand.tmp 31) 3, type := 3, pos := "l5_draw.go:51", after := #[{ on := 6, ground := Go.Ground.data }], guard := none }) (v := ?vv11_7) rfl (by kernel_rfl) (by kernel_rfl) (by kernel_rfl) (fun _ _ _ h => h) (Or.inl ⟨by rfl, ?hy11_7⟩) (by assumption) ?rest11_7
      case hy11_7 =>
        intro w hSw
        (try dsimp only at hSw)
        go_simp
        (try with_reducible rfl)
      simp only [Act.put, List.setIfInBounds_toArray, List.set_cons_zero, List.set_cons_succ]
      refine wpAnyH_ready (rs := [1, 8]) (by kernel_rfl) (by simp) ?_
      refine AllReadyH.cons (o := { dst := some 26, op := Go.Op.load 23 (Go.Operand.tmp 25), type := 23, pos := "l5_draw.go:51", after := #[{ on := 0, ground := Go.Ground.data }], guard := none }) rfl (fun K hK => ?_) (AllReadyH.cons (o := { dst := some 33, op := Go.Op.buildSlice 23 1 #[(0, Go.Operand.tmp 32)], type := 23, pos := "l5_draw.go:51", after := #[{ on := 7, ground := Go.Ground.data }], guard := none }) rfl (fun K hK => ?_) AllReadyH.nil)
      go_simp
      refine hK.out _ _ trivial (fun hHeld => ?_)
      clear hK K
      (try simp only [Act.put, List.setIfInBounds_toArray, List.set_cons_zero, List.set_cons_succ])
      refine wpAnyH_ready (rs := [8]) (by kernel_rfl) (by simp) ?_
      refine AllReadyH.cons (o := { dst := some 33, op := Go.Op.buildSlice 23 1 #[(0, Go.Operand.tmp 32)], type := 23, pos := "l5_draw.go:51", after := #[{ on := 7, ground := Go.Ground.data }], guard := none }) rfl (fun K hK => ?_) AllReadyH.nil
      go_simp
      refine hK.out _ _ trivial (fun hHeld => ?_)
      clear hK K
      (try simp only [Act.put, List.setIfInBounds_toArray, List.set_cons_zero, List.set_cons_succ])
      refine wpAnyH_ready (rs := [9]) (by kernel_rfl) (by simp) ?_
      refine AllReadyH.cons (o := { dst := some 34, op := Go.Op.call { callee := Go.Callee.builtin Go.Builtin.append, args := #[Go.Operand.tmp 26, Go.Operand.tmp 33], argTypes := #[23, 23] }, type := 23, pos := "l5_draw.go:51", after := #[{ on := 1, ground := Go.Ground.data }, { on := 8, ground := Go.Ground.data }, { on := 5, ground := Go.Ground.chain }], guard := none }) rfl (fun K hK => ?_) AllReadyH.nil
      refine step_append_eq _ (by rfl) _ _ _ (by rfl) _ _ _ _ (by rfl) (by rfl) hap'.out ?_
      refine hK.out _ _ trivial (fun hHeld => ?_)
      clear hK K
      (try simp only [Act.put, List.setIfInBounds_toArray, List.set_cons_zero, List.set_cons_succ])
      refine wpAnyH_take (i := 10) (oi := { dst := some 35, op := Go.Op.fieldAddr 26 (Go.Operand.tmp 5) 0, type := 0, pos := "l5_draw.go:51", after := #[{ on := 0, ground := Go.Ground.phase }, { on := 1, ground := Go.Ground.phase }, { on := 2, ground := Go.Ground.phase }, { on := 3, ground := Go.Ground.phase }, { on := 4, ground := Go.Ground.phase }, { on := 5, ground := Go.Ground.phase }, { on := 6, ground := Go.Ground.phase }, { on := 7, ground := Go.Ground.phase }, { on := 8, ground := Go.Ground.phase }, { on := 9, ground := Go.Ground.phase }], guard := none }) (v := ?vv12_10) rfl (by kernel_rfl) (by kernel_rfl) (by kernel_rfl) (fun _ _ _ h => h) (Or.inl ⟨by rfl, ?hy12_10⟩) (by assumption) ?rest12_10
      case hy12_10 =>
        intro w hSw
        (try dsimp only at hSw)
        go_simp
        (try with_reducible rfl)
      simp only [Act.put, List.setIfInBounds_toArray, List.set_cons_zero, List.set_cons_succ]
      refine wpAnyH_ready (rs := [11]) (by kernel_rfl) (by simp) ?_
      refine AllReadyH.cons (o := { dst := none, op := Go.Op.store 23 (Go.Operand.tmp 35) (Go.Operand.tmp 34), type := 0, pos := "l5_draw.go:51", after := #[{ on := 10, ground := Go.Ground.data }, { on := 9, ground := Go.Ground.data }, { on := 9, ground := Go.Ground.chain }, { on := 0, ground := Go.Ground.phase }, { on := 1, ground := Go.Ground.phase }, { on := 2, ground := Go.Ground.phase }, { on := 3, ground := Go.Ground.phase }, { on := 4, ground := Go.Ground.phase }, { on := 5, ground := Go.Ground.phase }, { on := 6, ground := Go.Ground.phase }, { on := 7, ground := Go.Ground.phase }, { on := 8, ground := Go.Ground.phase }, { on := 9, ground := Go.Ground.phase }], guard := none }) rfl (fun K hK => ?_) AllReadyH.nil
      go_simp
      refine hK.out _ _ trivial (fun hHeld => ?_)
      clear hK K
      (try simp only [Act.put, List.setIfInBounds_toArray, List.set_cons_zero, List.set_cons_succ])
      refine wpAnyH_done (by kernel_rfl) ?_ _
      rotate_left
      go_simp
      refine hK.out _ _ trivial (fun hHeld => ?_)
      clear hK K
      (try simp only [Act.put, List.setIfInBounds_toArray, List.set_cons_zero, List.set_cons_succ])
      refine wpAnyH_ready (rs := [1]) (by kernel_rfl) (by simp) ?_
      refine AllReadyH.cons (o := { dst := some 26, op := Go.Op.load 23 (Go.Operand.tmp 25), type := 23, pos := "l5_draw.go:51", after := #[{ on := 0, ground := Go.Ground.data }], guard := none }) rfl (fun K hK => ?_) AllReadyH.nil
      go_simp
      refine hK.out _ _ trivial (fun hHeld => ?_)
      clear hK K
      (try simp only [Act.put, List.setIfInBounds_toArray, List.set_cons_zero, List.set_cons_succ])
      refine wpAnyH_ready (rs := [9]) (by kernel_rfl) (by simp) ?_
      refine AllReadyH.cons (o := { dst := some 34, op := Go.Op.call { callee := Go.Callee.builtin Go.Builtin.append, args := #[Go.Operand.tmp 26, Go.Operand.tmp 33], argTypes := #[23, 23] }, type := 23, pos := "l5_draw.go:51", after := #[{ on := 1, ground := Go.Ground.data }, { on := 8, ground := Go.Ground.data }, { on := 5, ground := Go.Ground.chain }], guard := none }) rfl (fun K hK => ?_) AllReadyH.nil
      refine step_append_eq _ (by rfl) _ _ _ (by rfl) _ _ _ _ (by rfl) (by rfl) hap'.out ?_
      refine hK.out _ _ trivial (fun hHeld => ?_)
      clear hK K
      (try simp only [Act.put, List.setIfInBounds_toArray, List.set_cons_zero, List.set_cons_succ])
      refine wpAnyH_take (i := 10) (oi := { dst := some 35, op := Go.Op.fieldAddr 26 (Go.Operand.tmp 5) 0, type := 0, pos := "l5_draw.go:51", after := #[{ on := 0, ground := Go.Ground.phase }, { on := 1, ground := Go.Ground.phase }, { on := 2, ground := Go.Ground.phase }, { on := 3, ground := Go.Ground.phase }, { on := 4, ground := Go.Ground.phase }, { on := 5, ground := Go.Ground.phase }, { on := 6, ground := Go.Ground.phase }, { on := 7, ground := Go.Ground.phase }, { on := 8, ground := Go.Ground.phase }, { on := 9, ground := Go.Ground.phase }], guard := none }) (v := ?vv13_10) rfl (by kernel_rfl) (by kernel_rfl) (by kernel_rfl) (fun _ _ _ h => h) (Or.inl ⟨by rfl, ?hy13_10⟩) (by assumption) ?rest13_10
      case hy13_10 =>
        intro w hSw
        (try dsimp only at hSw)
        go_simp
        (try with_reducible rfl)
      simp only [Act.put, List.setIfInBounds_toArray, List.set_cons_zero, List.set_cons_succ]
      refine wpAnyH_ready (rs := [11]) (by kernel_rfl) (by simp) ?_
      refine AllReadyH.cons (o := { dst := none, op := Go.Op.store 23 (Go.Operand.tmp 35) (Go.Operand.tmp 34), type := 0, pos := "l5_draw.go:51", after := #[{ on := 10, ground := Go.Ground.data }, { on := 9, ground := Go.Ground.data }, { on := 9, ground := Go.Ground.chain }, { on := 0, ground := Go.Ground.phase }, { on := 1, ground := Go.Ground.phase }, { on := 2, ground := Go.Ground.phase }, { on := 3, ground := Go.Ground.phase }, { on := 4, ground := Go.Ground.phase }, { on := 5, ground := Go.Ground.phase }, { on := 6, ground := Go.Ground.phase }, { on := 7, ground := Go.Ground.phase }, { on := 8, ground := Go.Ground.phase }, { on := 9, ground := Go.Ground.phase }], guard := none }) rfl (fun K hK => ?_) AllReadyH.nil
      go_simp
      refine hK.out _ _ trivial (fun hHeld => ?_)
      clear hK K
      (try simp only [Act.put, List.setIfInBounds_toArray, List.set_cons_zero, List.set_cons_succ])
      refine wpAnyH_done (by kernel_rfl) ?_ _
      all_goals
        have hlow : ∀ k, (Value.slice at_ tr.length ct).ownBlock = some k → bl + 1 ≤ k := fun k hk => (hLBA.own.ints.lt k hk).1
        have hLB9 := hLBA.track hown1 hgr1
        have hMx : Mid b (b + 1) w (w4.alloc (.cells #[.int .i64 (1 + x * y)] 3)) := (((hMr.trans (Mid.ofBelow hbd (by have := hCr.lt; omega))).trans hM3).trans hM4).trans (Mid.ofBelow hA9 (by omega))
        have hM9 := (hMx.grown hgr1 (fun k hk => by have := hlow k hk; omega) (by omega)).setNew ⟨bl, 0, none⟩ (Nat.le_of_lt hblw) (by omega) (.slice (some ⟨gn, 0, none⟩) (tr.length + 1) cn)
        have hbkc : W1.heap[b]? = (w4.alloc (.cells #[.int .i64 (1 + x * y)] 3)).heap[b]? := hgr1.block b (by simp only [World.size_alloc]; omega) (fun e => by have := hlow b e.symm; omega)
        have hC9 : Cur w0 b (kk + 4) (W1.setCell ⟨bl, 0, none⟩ (.slice (some ⟨gn, 0, none⟩) (tr.length + 1) cn)) := (hC4.later hA9).same ((below_grown (hC4.later hA9).base hgr1 (by have := hC4.base.size; simp only [World.size_alloc]; omega) (fun k hk => by have := hlow k hk; have := hC4.lo; omega)).setCell (p := ⟨bl, 0, none⟩) (by have := hC4.lo; show w0.heap.size ≤ bl; omega) _) ((Below.heap_setCell W1 _ _ b (by show b ≠ bl; omega)).trans hbkc)
        have hr9 := ((((hroomr.keep (Mid.ofBelow (lo := 0) (hi := 0) hbd (Nat.zero_le _))).keep hM3).keep hM4).keep (Mid.ofBelow (lo := 0) (hi := 0) hA9 (Nat.zero_le _))).grown hgr1 (fun k hk => by have := hlow k hk; omega) |>.set ⟨bl, 0, none⟩ (.slice (some ⟨gn, 0, none⟩) (tr.length + 1) cn)
        go_wp2
        go_roundw
        case rel =>
          refine ⟨c - 1, kk + 4, tr ++ [1 + x * y], _, by rw [show ((c - 1 : Nat) : Int) = (c : Int) - 1 by omega], by rw [List.length_append]; simp; omega, by rw [List.length_append]; simp; omega, fun z hz => ?_, hLB9, hC9, hM9, hr9⟩
          rcases List.mem_append.1 hz with hz | hz
          · exact htr z hz
          · rw [List.mem_singleton] at hz; subst hz; omega
        case measure => simp [intOf] <;> omega
    · obtain rfl : c = 0 := by omega
      obtain ⟨at_, ct, rfl, _⟩ := ownInts hLBr.own.ints
      have q0 := hLBr.c0
      have hmb : most - 1 ≤ 100000 := by omega
      have hK3 := pick_any w0 b kk (most - 1) wr (by omega) hmb hCr
      go_wp2_with (go_at_call 28; with_reducible refine hK3.mono ?_; rintro _ w3 ⟨x3, rfl, hx30, hx31, hC3, hM3⟩)
      have hLB3 := hLBr.mid hM3 hblb
      have hroom3 := hroomr.keep hM3
      have hM03 := hMr.trans hM3
      have hlg0 : 2 ≤ 2 + x3 ∧ 2 + x3 ≤ most := by omega
      obtain ⟨lg, hlg⟩ : ∃ lg : Nat, 2 + x3 = (lg : Int) := ⟨(2 + x3).toNat, by omega⟩
      have hk3 : kk + 2 ≤ k + 30 := by omega
      have htl : tr.length = N := by omega
      have hgap : 0 ≤ gp ∧ gp ≤ 4 := by omega
      have hlg9 : lg ≤ 9 := by omega
      clear hK3 hLBr hCr hMr hroomr hM3 q0 hlg0 hc hLB2 hC2 hMd2 hroom2
      rw [hlg, htl]
      rename_i Kz az
      refine line_trains w0 b bl N k lg lg (kk + 2) tr gp (.slice at_ tr.length ct) w w3 Kz _ ?_ hk hN1' hlg9 hblb hblw hblt ⟨by simp, by simp, by simp; omega, fun x hx => absurd hx List.not_mem_nil, hLB3, hC3, hM03, hroom3⟩
      intro u9 u10 u11 u12 u13 u14 u44 u45 u46 u47 u48 u49 u50 u51 u52 u53 u54 u55 u56 u57 u58 u59 u60 u61 u62 u63 u64 u65 u66 u67 u68 u69 u70 u71 u72 u73 u74 u75 u76 u77 u78 u79 u80 u81 u82 u83 u84 u85 u86 u87 u88 u89 u90 u91 u92 u93 u94 u95 u96 u97 u98 u99 u100 u101 u102 u103 u104 u105 u106 u107 u108 u109 u110 u111 u112 u113 u114 u115 u116 u117 u118 u119 u120 u121 u122 u123 u124 u125 u126 u127 u128 c8 g kC L vT wr hT
      have hLBr := hT.box
      have hCr := hT.cur
      have hMr := hT.mid
      have hL5 := hT.len
      have hsum := hT.sum
      have hkC := hT.more
      have hdr := hT.dr
      obtain ⟨aT, cT, rfl, _⟩ := hLBr.own.trs.trains (fun x hx => by
        have h1 : x.1.legs.length ≤ (L.map fun x => x.1.legs.length).sum := le_sum (List.mem_map.2 ⟨x, hx, rfl⟩)
        unfold maxLen; omega)
      have hs0 : (L.map fun x => x.1.legs.length).sum ≤ 9 := by omega
      obtain ⟨x0, e0, f0⟩ := hT.room 0 (by omega)
      obtain ⟨x1, e1, f1⟩ := hT.room 1 (by omega)
      obtain ⟨x2', e2, f2⟩ := hT.room 2 (by omega)
      have q0 := hLBr.c0
      have q1 := hLBr.c1
      have q2 := hLBr.c2
      have hne : w.heap.size ≠ bl := by omega
      refine az _ _ ?_
      clear az
      go_wp2
      refine bodyPost_ret (v := .agg #[.slice at_ tr.length ct, .int .i64 gp, .slice aT L.length cT]) (by simp [results, Tryd.results10, go_sem, e0, e1, e2, htl]) rfl ⟨⟨tr, gp, L.map Prod.fst⟩, ⟨by dsimp only; omega, htr, hgap, by simpa using hL5, by rw [List.map_map]; show (L.map fun x => x.1.legs.length).sum ≤ 10; omega, fun t ht => (by obtain ⟨x, hx, rfl⟩ := List.mem_map.1 ht; dsimp only; rw [htl]; exact hdr x hx)⟩, ⟨L, at_, ct, aT, cT, rfl, rfl, ?_⟩, ?_, ?_⟩
      · exact (((hLBr.own.set ⟨w.heap.size, _, none⟩ (by show w.heap.size < bl + 1; omega) _).set ⟨w.heap.size, _, none⟩ (by show w.heap.size < bl + 1; omega) _).set ⟨w.heap.size, _, none⟩ (by show w.heap.size < bl + 1; omega) _).low (by omega)
      · exact (hCr.more (by omega)).same (((hCr.base.setCell (p := ⟨w.heap.size, _, none⟩) (by have := hCr.lo; show w0.heap.size ≤ w.heap.size; omega) _).setCell (p := ⟨w.heap.size, _, none⟩) (by have := hCr.lo; show w0.heap.size ≤ w.heap.size; omega) _).setCell (p := ⟨w.heap.size, _, none⟩) (by have := hCr.lo; show w0.heap.size ≤ w.heap.size; omega) _) ((Below.heap_setCell _ _ _ b (by show b ≠ w.heap.size; omega)).trans ((Below.heap_setCell _ _ _ b (by show b ≠ w.heap.size; omega)).trans (Below.heap_setCell _ _ _ b (by show b ≠ w.heap.size; omega))))
      · exact ((hMr.setNew ⟨w.heap.size, _, none⟩ (Nat.le_refl _) (by omega) _).setNew ⟨w.heap.size, _, none⟩ (Nat.le_refl _) (by omega) _).setNew ⟨w.heap.size, _, none⟩ (Nat.le_refl _) (by omega) _
end Go.Proofs.YtnjaegeapcijpaaDoor

namespace Go.Proofs.YtnjaegeapcijpaaDoor
open Go.RowKit

theorem Cur.new (w W : World) (b : Nat) (a : Option Addr) (len cap : Nat) (t : TypeId) (hl : len ≤ 1048576) (hI : IsB w a len) (hB : Below w.heap.size w W) (hb : b = W.heap.size) : Cur w b 0 (W.alloc (.cells #[.slice a len cap, .int .i64 0, .int .u64 0] t)) := by
  subst hb
  refine ⟨Below.join hB (Nat.le_refl _) (b1 W _), hB.size, ⟨a, len, cap, ?_, hl, hI⟩, ⟨0, by omega, by omega, ?_⟩, ⟨0, by omega, by omega, ?_⟩, ?_, ?_⟩
  all_goals simp
/-- what a drawn line is, and how it lies -/
def LinesPost (w : World) (e : Ending) (w' : World) : Prop := ∃ l : LnL, DrawnL l ∧ ∃ L at_ ct aT cT, l.trains = L.map Prod.fst ∧ e = .returned (.agg #[.slice at_ l.tracks.length ct, .int .i64 l.gap, .slice aT L.length cT]) ∧ LOwn w.heap.size w' l.tracks L (.slice at_ l.tracks.length ct) (.slice aT L.length cT) ∧ Below w.heap.size w w'
set_option maxRecDepth 20000 in
set_option maxHeartbeats 4000000 in
theorem lines_any (w : World) (a : Option Addr) (len cap : Nat) (most : Int) (hl : len ≤ 1048576) (hI : IsB w a len) (hm0 : 2 ≤ most) (hm1 : most ≤ 9) :
    Calls Tryd.prog 4 #[.slice a len cap, .int .i64 most] w (LinesPost w) := by
  have hA1 := b1 w (.cells #[.slice none 0 0, .int .i64 0, .slice none 0 0] 26)
  have hA2 := b1 (w.alloc (.cells #[.slice none 0 0, .int .i64 0, .slice none 0 0] 26)) (.cells #[.slice a len cap, .int .i64 0, .int .u64 0] 43)
  have hR1 : Room w.heap.size 3 (w.alloc (.cells #[.slice none 0 0, .int .i64 0, .slice none 0 0] 26)) := Room.lit _ _ _ 3 (by simp)
  have hC1 := Cur.new w _ (w.heap.size + 1) a len cap 43 hl hI hA1 (by rw [World.size_alloc])
  have hR2 := hR1.keep (Mid.ofBelow (lo := 0) (hi := 0) hA2 (Nat.zero_le _))
  have hD := drawLine_any w (w.heap.size + 1) 0 most _ (by omega) hm0 hm1 hC1
  clear hR1 hA1
  go_enter Tryd.func4, Tryd.ntmps4
  go_wp2_with (go_at_call 10; fail)
  refine hD.mono ?_
  rintro _ w2 ⟨l, hDr, ⟨L, at_, ct, aT, cT, hlL, rfl, hown⟩, hC2, hM2⟩
  have hR3 := hR2.keep hM2
  rw [World.size_alloc, World.size_alloc] at hown
  have hbase := hC2.base
  clear hD hA2 hC1 hR2 hM2 hC2
  obtain ⟨x0, e0, f0⟩ := hR3 0 (by omega)
  obtain ⟨x1, e1, f1⟩ := hR3 1 (by omega)
  obtain ⟨x2, e2, f2⟩ := hR3 2 (by omega)
  have hlL' : Hid _ := hlL
  clear hlL
  go_wp2
  refine bodyPost_ret (v := .agg #[.slice at_ l.tracks.length ct, .int .i64 l.gap, .slice aT L.length cT]) (by simp [results, Tryd.results4, go_sem, e0, e1, e2]) rfl ⟨l, hDr, L, at_, ct, aT, cT, hlL'.out, rfl, ?_, ?_⟩
  · exact (((hown.set ⟨w.heap.size, _, none⟩ (by show w.heap.size < w.heap.size + 1 + 1; omega) _).set ⟨w.heap.size, _, none⟩ (by show w.heap.size < w.heap.size + 1 + 1; omega) _).set ⟨w.heap.size, _, none⟩ (by show w.heap.size < w.heap.size + 1 + 1; omega) _).low (by omega)
  · exact ((hbase.setCell (p := ⟨w.heap.size, _, none⟩) (Nat.le_refl _) _).setCell (p := ⟨w.heap.size, _, none⟩) (Nat.le_refl _) _).setCell (p := ⟨w.heap.size, _, none⟩) (Nat.le_refl _) _
end Go.Proofs.YtnjaegeapcijpaaDoor

namespace Go.Proofs.YtnjaegeapcijpaaDoor
open Go.RowKit

theorem row_cap' {w : World} {base : Nat} {e : TypeId} {size g n cap : Nat} {xs : List Value} (h : w.ownsRow base e size (.slice (some ⟨g, 0, none⟩) n cap) n xs) : n ≤ cap := by
  obtain ⟨_, hx | ⟨g', cap', cur, hv, _, _, h3, _⟩⟩ := h
  · cases hx.1
  · cases hv
    exact h3
theorem intCells_app (A B : List Int) : intCells (A ++ B) = intCells A ++ intCells B := by simp [intCells]
theorem intCells_one (A : List Int) : ∀ u ∈ intCells A, u.oneCell' = true := by
  intro u hu
  obtain ⟨n, _, rfl⟩ := List.mem_map.1 hu
  rfl
theorem cellLaterA {w w' : World} {a : Addr} {v : Value} (h : Below w.heap.size w w') (hc : w.cell? a = some v) : w'.cell? a = some v := by
  obtain ⟨b, o, sp⟩ := a
  have hspot : sp = none := World.cell?_spot hc
  subst hspot
  exact cellLater h hc
theorem row_take {w : World} {base g cap : Nat} {A : List Int} (h : w.ownsRow base 3 1 (.slice (some ⟨g, 0, none⟩) A.length cap) A.length (intCells A)) (q : Nat) (hq : q ≤ A.length) : w.ownsRow base 3 1 (.slice (some ⟨g, 0, none⟩) q cap) q (intCells (A.take q)) := by
  obtain ⟨hl, hx | ⟨g', cap', cur, hv, h1, h2, h3, h4, h5, h6⟩⟩ := h
  · cases hx.1
  · cases hv
    refine ⟨by rw [intCells_len, List.length_take]; omega, Or.inr ⟨g, cap, cur, rfl, h1, h2, by omega, h4, h5, ?_⟩⟩
    have e : intCells (A.take q) = (intCells A).take q := by simp [intCells, List.map_take]
    rw [e, ← h6, List.take_take]
    congr 1
    omega
/-- what stands behind place q, where a slice from there on begins -/
theorem dropAt {w : World} {base g cap : Nat} {A : List Int} (h : w.ownsRow base 3 1 (.slice (some ⟨g, 0, none⟩) A.length cap) A.length (intCells A)) (q : Nat) (hq : q < A.length) :
    ∃ ad : Addr, (if cap = q + 1 then some (⟨g, 0, none⟩ : Addr) else some ⟨g, q + 1, none⟩) = some ad ∧ ∀ j u, (intCells (A.drop (q + 1)))[j]? = some u → w.cell? (ad.add j) = some u := by
  have hcap := row_cap' h
  by_cases e : cap = q + 1
  · refine ⟨⟨g, 0, none⟩, by rw [if_pos e], fun j u hj => ?_⟩
    have : (intCells (A.drop (q + 1))).length = 0 := by rw [intCells_len, List.length_drop]; omega
    rw [List.eq_nil_of_length_eq_zero this] at hj
    simp at hj
  · refine ⟨⟨g, q + 1, none⟩, by rw [if_neg e], fun j u hj => ?_⟩
    have hjl : j < (intCells (A.drop (q + 1))).length := (List.getElem?_eq_some_iff.1 hj).1
    rw [intCells_len, List.length_drop] at hjl
    rw [Go.WideShapes.add_plain, World.ownsRow.cellAt h (q + 1 + j) (by omega), ← hj]
    have e2 : intCells (A.drop (q + 1)) = (intCells A).drop (q + 1) := by simp [intCells, List.map_drop]
    rw [e2, List.getElem?_drop]
def lenV : Value → Nat
  | .slice _ n _ => n
  | _ => 0
theorem lenV_of {w : World} {base : Nat} {e : TypeId} {size n : Nat} {v : Value} {xs : List Value} (h : w.ownsRow base e size v n xs) : lenV v = n := by
  obtain ⟨_, hx | ⟨g', cap', cur, hv, _⟩⟩ := h
  · rw [hx.1, hx.2]; rfl
  · rw [hv]; rfl
/-- what a drawn order is: a row of numbers of its own -/
def OrderPost (w0 : World) (b k n : Nat) (w : World) (e : Ending) (w' : World) : Prop := ∃ (v : Value) (D : List Int), e = .returned v ∧ w'.ownsRow w.heap.size 3 1 v D.length (intCells D) ∧ D.length = n ∧ Cur w0 b (k + 4 * n) w' ∧ Mid b (b + 1) w w'
set_option maxRecDepth 20000 in
set_option maxHeartbeats 8000000 in
theorem order_any (w0 : World) (b k : Nat) (a : Option Addr) (len cap : Nat) (gap : Int) (a' : Option Addr) (np cap' : Nat) (f : Nat → TrainD) (w : World) (hk : k ≤ 100000) (hC : Cur w0 b k w) (hT : IsTrains 0 w.heap.size w a' np f) (hnp : np ≤ 5) (hn10 : legSum f np ≤ 10) :
    Calls Tryd.prog 11 #[.pointer (some ⟨b, 0, none⟩), .agg #[.slice a len cap, .int .i64 gap, .slice a' np cap']] w (OrderPost w0 b k (legSum f np) w) := by
  have hblt : b < w.heap.size := hC.lt
  have hA := b1 w (.cells #[.slice a len cap, .int .i64 gap, .slice a' np cap'] 26)
  obtain ⟨n0, n1, n2⟩ := new3 w (.slice a len cap) (.int .i64 gap) (.slice a' np cap') 26
  obtain ⟨i0, ii, iz0, iz1, iz2⟩ := info_parts Tryd.infoInt
  have hle : ∀ i, i < np → legSum f i + (f i).nl ≤ legSum f np := fun i hi => by
    have hm : ∀ d, i + 1 + d ≤ np → legSum f (i + 1) ≤ legSum f (i + 1 + d) := fun d => by
      induction d with
      | zero => exact fun _ => Nat.le_refl _
      | succ d ih => intro h; exact Nat.le_trans (ih (by omega)) (by rw [show i + 1 + (d + 1) = i + 1 + d + 1 from rfl, legSum]; omega)
    have := hm (np - (i + 1)) (by omega)
    rw [show i + 1 + (np - (i + 1)) = np by omega, legSum] at this
    exact this
  have hle' : Hid _ := hle
  clear hle
  go_enter Tryd.func11, Tryd.ntmps11
  go_wp2
  clear n0 n1 n2
  go_loopw [5, 13] (fun c5 c13 wr => ∃ (i : Nat) (A : List Int), i ≤ np ∧ c13 = .int .i64 i ∧ A.length = legSum f i ∧ wr.ownsRow (w.heap.size + 1) 3 1 c5 A.length (intCells A) ∧ Below w.heap.size w wr ∧ w.heap.size < wr.heap.size) (fun _ c13 _ => np - (intOf c13).toNat)
  case atStart => exact ⟨0, [], Nat.zero_le _, rfl, rfl, World.ownsRow_nil _ _ _ _, hA, by simp⟩
  case round =>
    obtain ⟨i, A, hi, rfl, hAl, hown, hB, hsz⟩ := hrel
    by_cases hlt : i < np
    · have hlt' : (i : Int) < (np : Int) := by omega
      have hi0 : (0 : Int) ≤ (i : Int) := by omega
      have hli := hle'.out i hlt
      obtain ⟨bt, ot, la, lc, rfl, _, hbt, t0, t1, t2, t3, t4, hlg, hml⟩ := hT i hlt
      have t0' := cellLater hB t0
      have t1' := cellLater hB t1
      have t2' := cellLater hB t2
      have t3' := cellLater hB t3
      have t4' := cellLater hB t4
      go_wp2
      clear t0' t1' t2' t3' t4' t0 t1 t2 t3 t4
      have hAt := b1 wr (.cells #[.int .i64 (f i).frm, .int .i64 (f i).ready, .int .i64 (f i).due, .int .i64 (f i).weight, .slice la (f i).nl lc] 71)
      go_loopw [5, 21] (fun c5 c21 wq => ∃ (m : Nat) (A' : List Int), m ≤ (f i).nl ∧ c21 = .int .i64 m ∧ A'.length = legSum f i + m ∧ wq.ownsRow (w.heap.size + 1) 3 1 c5 A'.length (intCells A') ∧ Below w.heap.size w wq ∧ w.heap.size < wq.heap.size) (fun _ c21 _ => (f i).nl - (intOf c21).toNat)
      case atStart => exact ⟨0, A, Nat.zero_le _, rfl, hAl, ownsRow_later hown hAt, Below.join hB (Nat.le_refl _) hAt, by rw [World.size_alloc]; omega⟩
      case round =>
        clear hown hB hsz hAt
        obtain ⟨m, A', hm, rfl, hAl', hown, hB, hsz⟩ := hrel
        by_cases hmlt : m < (f i).nl
        · have hmlt' : (m : Int) < ((f i).nl : Int) := by omega
          go_wp2_with (at_builtin; refine wpList_append_own_at _ rfl _ _ 23 rfl (w.heap.size + 1) 3 i0 _ 1 8 Tryd.underlying23 ii iz0 iz1 iz2 rfl (by decide) _ _ _ rfl (ownsRow_later hown (b1 _ _)) ⟨_, 0, none⟩ 1 1 [.int .i64 i] rfl rfl cells1_lie one1 (by unfold maxLen; omega) (by omega) (by simp only [World.size_alloc]; omega) ?_)
          intro v' W1 hown1 hgr1 _ _
          have hB1 := below_grown (Below.join hB (Nat.le_refl _) (b1 _ _)) hgr1 (by simp only [World.size_alloc]; omega) (fun j hj => by have := (hown.lt j hj).1; omega)
          have hsz1 := hB1.size
          go_wp2
          go_roundw
          case rel => exact ⟨m + 1, A' ++ [(i : Int)], by omega, rfl, by rw [List.length_append, hAl']; rfl, by rw [intCells_snoc, List.length_append, hAl']; exact hown1, hB1, by have := hgr1.size; rw [World.size_alloc] at this; omega⟩
          case measure => simp only [intOf]; omega
        · obtain rfl : m = (f i).nl := by omega
          go_wp2
          go_roundw
          case rel => exact ⟨i + 1, A', by omega, rfl, by rw [hAl', legSum], hown, hB, hsz⟩
          case measure => simp only [intOf]; omega
    · obtain rfl : i = np := by omega
      go_wp2
      have hM0 : Mid b (b + 1) w wr := Mid.ofBelow hB (by omega)
      have hC0 := hC.later hB
      clear hB hT hle' hA hC
      go_loopw [5, 8] (fun c5 c8 wq => ∃ (A D : List Int) (kk : Nat), A.length + D.length = legSum f i ∧ wq.ownsRow (w.heap.size + 1) 3 1 c5 A.length (intCells A) ∧ wq.ownsRow (w.heap.size + 1) 3 1 c8 D.length (intCells D) ∧ Off c5 c8 ∧ Cur w0 b kk wq ∧ kk ≤ k + 4 * D.length ∧ Mid b (b + 1) w wq ∧ w.heap.size < wq.heap.size) (fun c5 _ _ => lenV c5)
      case atStart => exact ⟨A, [], k, by rw [hAl]; rfl, hown, World.ownsRow_nil _ _ _ _, fun j _ e => by simp [Value.ownBlock] at e, hC0, by simp, hM0, hsz⟩
      case round =>
        clear hown hM0 hC0 hsz hAl
        obtain ⟨A, D, kk, hAD, hoA, hoD, hoff, hCq, hkk, hMq, hsz⟩ := hrel
        by_cases hA0 : 0 < A.length
        · obtain ⟨gA, cA, rfl⟩ := Joins.ownsRow_form hoA hA0
          have hA0' : (0 : Int) < (A.length : Int) := by omega
          have hAD' : Hid (A.length + D.length = legSum f i) := hAD
          have hA10 : A.length ≤ 10 := by omega
          have hD10 : D.length ≤ 10 := by omega
          clear hAD
          go_wp2_with (go_at_call 28; fail)
          refine (pick_any w0 b kk A.length _ (by omega) (by omega) hCq).mono ?_
          rintro _ w1 ⟨y1, rfl, hy0, hy1, hC1, hM1⟩
          go_wp2_with (go_at_call 28; fail)
          refine (pick_any w0 b (kk + 2) 2 _ (by omega) (by omega) hC1).mono ?_
          rintro _ w2 ⟨y2, rfl, hy20, hy21, hC2, hM2⟩
          have h12 : 1 + y2 ≠ 0 := by omega
          have hd0 : 0 ≤ y1 / (1 + y2) := Int.ediv_nonneg hy0 (by omega)
          have hd1 : y1 / (1 + y2) ≤ y1 := Int.ediv_le_self _ hy0
          obtain ⟨q, hq⟩ : ∃ q : Nat, y1 / (1 + y2) = (q : Int) := ⟨(y1 / (1 + y2)).toNat, by omega⟩
          rw [hq] at hd0 hd1
          have hqA : q < A.length := by omega
          have hqA' : (q : Int) < (A.length : Int) := by omega
          have hoA2 := rowMid (rowMid hoA hM1 (by omega)) hM2 (by omega)
          have hoD2 := rowMid (rowMid hoD hM1 (by omega)) hM2 (by omega)
          have hMq2 := (hMq.trans hM1).trans hM2
          have hsz2 := hMq2.below.size
          have hb2 := hC2.lt
          obtain ⟨z, hcq⟩ : ∃ z : Int, w2.cell? ⟨gA, q, none⟩ = some (.int .i64 z) := ⟨_, ints_at hoA2 hqA⟩
          clear hoA hoD hCq hMq hC1 hM1 hM2
          go_wp2_with (at_builtin; refine wpList_append_own_at _ rfl _ _ 23 rfl (w.heap.size + 1) 3 i0 _ 1 8 Tryd.underlying23 ii iz0 iz1 iz2 rfl (by decide) _ _ _ rfl (ownsRow_later hoD2 (b1 _ _)) ⟨w2.heap.size, 0, none⟩ 1 1 [.int .i64 z] rfl rfl cells1_lie one1 (by unfold maxLen; omega) (by omega) (by simp only [World.size_alloc]; omega) ?_)
          intro v' W1 hown1 hgr1 _ hloc1
          have hoA3 : W1.ownsRow (w.heap.size + 1) 3 1 (.slice (some ⟨gA, 0, none⟩) A.length cA) A.length (intCells A) := ownsRow_same (ownsRow_later hoA2 (b1 w2 (.cells #[.int .i64 z] 3))) (fun j hj => hgr1.block j (by have := (hoA2.lt j hj).2; rw [World.size_alloc]; omega) (fun e => hoff j hj e.symm))
          clear hcq
          go_wp2
          have hoff1 : Off (.slice (some ⟨gA, 0, none⟩) A.length cA) v' := hoff.loc (W := w2.alloc (.cells #[.int .i64 z] 3)) (fun j hj => by have := (hoA2.lt j hj).2; rw [World.size_alloc]; omega) (by simpa using hloc1)
          have hMW1 : Mid b (b + 1) w W1 := (hMq2.trans (Mid.ofBelow (b1 w2 (.cells #[.int .i64 z] 3)) (by omega))).grown hgr1 (fun j hj => by have := (hoD2.lt j hj).1; omega) (by omega)
          have hCW1 : Cur w0 b (kk + 2 + 2) W1 := (hC2.later (b1 w2 (.cells #[.int .i64 z] 3))).grown hgr1 (fun j hj => by have := (hoD2.lt j hj).1; omega)
          have hsW1 := hMW1.below.size
          have hszW1 : w.heap.size < W1.heap.size := by have := (hoA3.lt gA rfl); omega
          have hDr : Below W1.heap.size W1 W1.drew := (Below.refl _ _).drew
          obtain ⟨ad, hif, hadd⟩ := dropAt hoA3 q hqA
          obtain ⟨v2, W2, hap, hown2, hgr2, _, hloc2⟩ := run_append_own_at (P := Tryd.prog) W1.drew (w.heap.size + 1) 23 23 3 i0 _ 1 8 Tryd.underlying23 ii iz0 iz1 iz2 rfl (by decide) (.slice (some ⟨gA, 0, none⟩) q cA) q (intCells (A.take q)) (ownsRow_later (row_take hoA3 q (by omega)) hDr) ad (A.length - (q + 1)) (cA - (q + 1)) (intCells (A.drop (q + 1))) (by rw [intCells_len, List.length_drop]; omega) (fun j u hj => cellLaterA hDr (hadd j u hj)) (intCells_one _) (by unfold maxLen; omega) (by omega) (by show w.heap.size + 1 ≤ W1.heap.size; omega)
          have hap' : Hid _ := hap
          have hMW2 : Mid b (b + 1) w W2 := (hMW1.trans (Mid.ofBelow hDr (by omega))).grown hgr2 (fun j hj => by have := (hoA3.lt j hj).1; omega) (by omega)
          have hCW2 : Cur w0 b (kk + 2 + 2) W2 := (hCW1.later hDr).grown hgr2 (fun j hj => by have := (hoA3.lt j hj).1; omega)
          have hoD4 : W2.ownsRow (w.heap.size + 1) 3 1 v' (D.length + 1) (intCells D ++ [.int .i64 z]) := ownsRow_same (ownsRow_later hown1 hDr) (fun j hj => hgr2.block j (by have := (hown1.lt j hj).2; exact this) (fun e => hoff1 j e.symm hj))
          have hoff2 : Off v2 v' := (hoff1.symm.loc (W := W1.drew) (v := .slice (some ⟨gA, 0, none⟩) A.length cA) (v' := v2) (fun j hj => (hown1.lt j hj).2) hloc2).symm
          have hlen2 : (A.take q ++ A.drop (q + 1)).length = q + (A.length - (q + 1)) := by rw [List.length_append, List.length_take, List.length_drop]; omega
          have hown2' : W2.ownsRow (w.heap.size + 1) 3 1 v2 (A.take q ++ A.drop (q + 1)).length (intCells (A.take q ++ A.drop (q + 1))) := by
            rw [hlen2, intCells_app]; exact hown2
          have hsW2 : w.heap.size < W2.heap.size := by have := hgr2.size; have h3 : W1.drew.heap.size = W1.heap.size := rfl; omega
          clear hap hown2 hDr
          have hcap := row_cap' hoA3
          have hqc : (q : Int) ≤ (cA : Int) := by omega
          have hw1 : IntKind.i64.wrap ((q : Int) + 1) = (q : Int) + 1 := by rw [IntKind.wrap_i64]; omega
          have hq1c : (q : Int) + 1 ≤ (A.length : Int) := by omega
          have hq10 : (0 : Int) ≤ (q : Int) + 1 := by omega
          refine wp_region_held_drew (S := fun _ => True) (by kernel_rfl) trivial (fun hHeld => ?_)
          refine wpAnyH_take (i := 0) (oi := { dst := some 47, op := Go.Op.move (Go.Operand.tmp 5), type := 23, pos := "l5_draw.go:153", after := #[], guard := none }) (v := ?vv1_0) rfl (by kernel_rfl) (by kernel_rfl) (by kernel_rfl) (fun _ _ _ h => h) (Or.inl ⟨by rfl, ?hy1_0⟩) (by assumption) ?rest1_0
          case hy1_0 =>
            intro w hSw
            (try dsimp only at hSw)
            go_simp
            (try with_reducible rfl)
          simp only [Act.put, List.setIfInBounds_toArray, List.set_cons_zero, List.set_cons_succ]
          refine wpAnyH_take (i := 1) (oi := { dst := some 48, op := Go.Op.move (Go.Operand.tmp 9), type := 3, pos := "l5_draw.go:153", after := #[], guard := none }) (v := ?vv2_1) rfl (by kernel_rfl) (by kernel_rfl) (by kernel_rfl) (fun _ _ _ h => h) (Or.inl ⟨by rfl, ?hy2_1⟩) (by assumption) ?rest2_1
          case hy2_1 =>
            intro w hSw
            (try dsimp only at hSw)
            go_simp
            (try with_reducible rfl)
          simp only [Act.put, List.setIfInBounds_toArray, List.set_cons_zero, List.set_cons_succ]
          refine wpAnyH_take (i := 2) (oi := { dst := some 49, op := Go.Op.slice 23 (Go.Operand.tmp 47) none (some (Go.Operand.tmp 48)) none, type := 23, pos := "l5_draw.go:153", after := #[{ on := 0, ground := Go.Ground.data }, { on := 1, ground := Go.Ground.data }], guard := none }) (v := ?vv3_2) rfl (by kernel_rfl) (by kernel_rfl) (by kernel_rfl) (fun _ _ _ h => h) (Or.inl ⟨by rfl, ?hy3_2⟩) (by assumption) ?rest3_2
          case hy3_2 =>
            intro w hSw
            (try dsimp only at hSw)
            go_simp
            (try with_reducible rfl)
          simp only [Act.put, List.setIfInBounds_toArray, List.set_cons_zero, List.set_cons_succ]
          refine wpAnyH_take (i := 3) (oi := { dst := some 50, op := Go.Op.move (Go.Operand.tmp 5), type := 23, pos := "l5_draw.go:153", after := #[], guard := none }) (v := ?vv4_3) rfl (by kernel_rfl) (by kernel_rfl) (by kernel_rfl) (fun _ _ _ h => h) (Or.inl ⟨by rfl, ?hy4_3⟩) (by assumption) ?rest4_3
          case hy4_3 =>
            intro w hSw
            (try dsimp only at hSw)
            go_simp
            (try with_reducible rfl)
          simp only [Act.put, List.setIfInBounds_toArray, List.set_cons_zero, List.set_cons_succ]
          refine wpAnyH_take (i := 4) (oi := { dst := some 51, op := Go.Op.move (Go.Operand.tmp 9), type := 3, pos := "l5_draw.go:153", after := #[], guard := none }) (v := ?vv5_4) rfl (by kernel_rfl) (by kernel_rfl) (by kernel_rfl) (fun _ _ _ h => h) (Or.inl ⟨by rfl, ?hy5_4⟩) (by assumption) ?rest5_4
          case hy5_4 =>
            intro w hSw
            (try dsimp only at hSw)
            go_simp
            (try with_reducible rfl)
          simp only [Act.put, List.setIfInBounds_toArray, List.set_cons_zero, List.set_cons_succ]
          refine wpAnyH_take (i := 5) (oi := { dst := some 52, op := Go.Op.binOp Go.BinOp.add 3 (Go.Operand.tmp 51) (Go.Operand.const (Go.Value.int Go.IntKind.i64 1)) 3, type := 3, pos := "l5_draw.go:153", after := #[{ on := 4, ground := Go.Ground.data }], guard := none }) (v := ?vv6_5) rfl (by kernel_rfl) (by kernel_rfl) (by kernel_rfl) (fun _ _ _ h => h) (Or.inl ⟨by rfl, ?hy6_5⟩) (by assumption) ?rest6_5
          case hy6_5 =>
            intro w hSw
            (try dsimp only at hSw)
            go_simp
            (try with_reducible rfl)
          simp only [Act.put, List.setIfInBounds_toArray, List.set_cons_zero, List.set_cons_succ]
          refine wpAnyH_take (i := 6) (oi := { dst := some 53, op := Go.Op.slice 23 (Go.Operand.tmp 50) (some (Go.Operand.tmp 52)) none none, type := 23, pos := "l5_draw.go:153", after := #[{ on := 3, ground := Go.Ground.data }, { on := 5, ground := Go.Ground.data }], guard := none }) (v := ?vv7_6) rfl (by kernel_rfl) (by kernel_rfl) (by kernel_rfl) (fun _ _ _ h => h) (Or.inl ⟨by rfl, ?hy7_6⟩) (by assumption) ?rest7_6
          case hy7_6 =>
            intro w hSw
            (try dsimp only at hSw)
            go_simp
            (try with_reducible rfl)
          simp only [Act.put, List.setIfInBounds_toArray, List.set_cons_zero, List.set_cons_succ]
          (try rw [hif])
          refine wpAnyH_ready (rs := [7]) (by kernel_rfl) (by simp) ?_
          refine AllReadyH.cons (o := { dst := some 54, op := Go.Op.call { callee := Go.Callee.builtin Go.Builtin.append, args := #[Go.Operand.tmp 49, Go.Operand.tmp 53], argTypes := #[23, 23] }, type := 23, pos := "l5_draw.go:153", after := #[{ on := 2, ground := Go.Ground.data }, { on := 6, ground := Go.Ground.data }], guard := none }) rfl (fun K hK => ?_) AllReadyH.nil
          refine step_append_eq _ (by rfl) _ _ _ (by rfl) _ _ _ _ (by rfl) (by rfl) hap'.out ?_
          refine hK.out _ _ trivial (fun hHeld => ?_)
          clear hK K
          (try simp only [Act.put, List.setIfInBounds_toArray, List.set_cons_zero, List.set_cons_succ])
          refine wpAnyH_ready (rs := [8]) (by kernel_rfl) (by simp) ?_
          refine AllReadyH.cons (o := { dst := some 5, op := Go.Op.assign (Go.Operand.tmp 54), type := 23, pos := "l5_draw.go:153", after := #[{ on := 7, ground := Go.Ground.data }, { on := 7, ground := Go.Ground.chain }, { on := 0, ground := Go.Ground.phase }, { on := 1, ground := Go.Ground.phase }, { on := 2, ground := Go.Ground.phase }, { on := 3, ground := Go.Ground.phase }, { on := 4, ground := Go.Ground.phase }, { on := 5, ground := Go.Ground.phase }, { on := 6, ground := Go.Ground.phase }, { on := 7, ground := Go.Ground.phase }], guard := none }) rfl (fun K hK => ?_) AllReadyH.nil
          go_simp
          refine hK.out _ _ trivial (fun hHeld => ?_)
          clear hK K
          (try simp only [Act.put, List.setIfInBounds_toArray, List.set_cons_zero, List.set_cons_succ])
          refine wpAnyH_done (by kernel_rfl) ?_ _
          go_wp2
          go_roundw
          case rel => exact ⟨A.take q ++ A.drop (q + 1), D ++ [z], kk + 2 + 2, by have := hAD'.out; rw [hlen2, List.length_append]; simp only [List.length_cons, List.length_nil]; omega, hown2', by rw [intCells_snoc, List.length_append]; exact hoD4, hoff2, hCW2, by rw [List.length_append]; simp only [List.length_cons, List.length_nil]; omega, hMW2, hsW2⟩
          case measure =>
            rw [lenV_of hown2', hlen2]
            simp only [lenV]
            omega
        · have hA00 : A.length = 0 := by omega
          obtain ⟨x5, y5, rfl, _⟩ := ownInts hoA
          have hA0' : ¬ ((0 : Int) < (A.length : Int)) := by omega
          have hDl : D.length = legSum f i := by omega
          have hDl' : Hid (D.length = legSum f i) := hDl
          clear hDl hA00 hAD
          go_wp2
          go_ret
          exact ⟨_, D, rfl, Joins.ownsRow_le hoD (Nat.le_succ _), hDl'.out, hCq.more (by have := hDl'.out; omega), hMq⟩
end Go.Proofs.YtnjaegeapcijpaaDoor

namespace Go.Proofs.YtnjaegeapcijpaaDoor
open Go.RowKit

set_option maxRecDepth 20000 in
set_option maxHeartbeats 4000000 in
theorem anOrder_any (a : Option Addr) (len cap : Nat) (gap : Int) (a' : Option Addr) (np cap' : Nat) (f : Nat → TrainD) (ca : Option Addr) (cl cc : Nat) (w : World) (hl : cl ≤ 1048576) (hI : IsB w ca cl) (hT : IsTrains 0 w.heap.size w a' np f) (hnp : np ≤ 5) (hn10 : legSum f np ≤ 10) :
    Calls Tryd.prog 5 #[.agg #[.slice a len cap, .int .i64 gap, .slice a' np cap'], .slice ca cl cc] w fun e w' => (∃ (v : Value) (D : List Int), e = .returned v ∧ w'.ownsRow w.heap.size 3 1 v D.length (intCells D) ∧ D.length = legSum f np) ∧ Below w.heap.size w w' := by
  have hA1 := b1 w (.cells #[.slice a len cap, .int .i64 gap, .slice a' np cap'] 26)
  obtain ⟨n0, n1, n2⟩ := new3 w (.slice a len cap) (.int .i64 gap) (.slice a' np cap') 26
  have hA2 := b1 (w.alloc (.cells #[.slice a len cap, .int .i64 gap, .slice a' np cap'] 26)) (.cells #[.slice ca cl cc, .int .i64 0, .int .u64 0] 43)
  have hC1 := Cur.new w _ (w.heap.size + 1) ca cl cc 43 hl hI hA1 (by rw [World.size_alloc])
  have hA12 := Below.join hA1 (Nat.le_refl _) hA2
  have hT1 := hT.grow hA12
  have q0 := cellLater hA2 n0
  have q1 := cellLater hA2 n1
  have q2 := cellLater hA2 n2
  have hO := order_any w (w.heap.size + 1) 0 a len cap gap a' np cap' f _ (by omega) hC1 hT1 hnp hn10
  go_enter Tryd.func5, Tryd.ntmps5
  go_wp2_with (go_at_call 11; fail)
  refine hO.mono ?_
  rintro _ w2 ⟨v, D, rfl, hown, hD, hC2, hM2⟩
  have hD' : Hid _ := hD
  clear hD hO
  go_wp2
  go_ret
  exact ⟨⟨v, D, rfl, Joins.ownsRow_le hown (by rw [World.size_alloc, World.size_alloc]; omega), hD'.out⟩, hC2.base⟩

set_option maxRecDepth 20000 in
set_option maxHeartbeats 8000000 in
theorem wPlan_same (c c' : Option Addr) (np nc nc' : Nat) (P : Nat → RowD) (w : World) (hl : np ≤ 1048576) (hml : ∀ j, j < np → (P j).n ≤ 1048576) (hI : IsRows 0 w.heap.size w c np P) (hJ : IsRows 0 w.heap.size w c' np P) :
    Calls Tryd.prog 8 #[.agg #[.slice c np nc], .agg #[.slice c' np nc']] w fun e w' => e = .returned (.bool true) ∧ Below w.heap.size w w' := by
  have hA := b2 w (.cells #[.slice c np nc] 31) (.cells #[.slice c' np nc'] 31)
  have x0 : ((w.alloc (.cells #[.slice c np nc] 31)).alloc (.cells #[.slice c' np nc'] 31)).cell? ⟨w.heap.size, 0, none⟩ = some (.slice c np nc) := cellLater (b1 _ _) (by simp)
  have y0 : ((w.alloc (.cells #[.slice c np nc] 31)).alloc (.cells #[.slice c' np nc'] 31)).cell? ⟨w.heap.size + 1, 0, none⟩ = some (.slice c' np nc') := by
    rw [show w.heap.size + 1 = (w.alloc (.cells #[.slice c np nc] 31)).heap.size from (World.size_alloc ..).symm]
    simp
  go_enter Tryd.func8, Tryd.ntmps8
  obtain ⟨W, hW⟩ : ∃ W, W = (w.alloc (.cells #[.slice c np nc] 31)).alloc (.cells #[.slice c' np nc'] 31) := ⟨_, rfl⟩
  rw [← hW] at hA x0 y0
  have hI1 := hI.grow hA
  have hJ1 := hJ.grow hA
  go_wp2
  rw [← hW]
  clear hW
  go_loopw [17] (fun cc wr => ∃ i : Nat, i ≤ np ∧ cc = .int .i64 i ∧ Below W.heap.size W wr) (fun cc _ => np - (intOf cc).toNat)
  case atStart => exact ⟨0, Nat.zero_le _, rfl, Below.refl _ _⟩
  case round =>
    obtain ⟨i, hi, rfl, hB⟩ := hrel
    by_cases hlt : i < np
    · have hlt' : (i : Int) < (np : Int) := by omega
      have hi0 : (0 : Int) ≤ (i : Int) := by omega
      obtain ⟨bp, op, lp, lc, rfl, _, _, p0, hin, hm1⟩ := hI1 i hlt
      obtain ⟨bq, oq, lq, lqc, rfl, _, _, q0, hjn, hm2⟩ := hJ1 i hlt
      have x1 := cellLater hB x0
      have y1 := cellLater hB y0
      have p1 := cellLater hB p0
      have q1 := cellLater hB q0
      have hmi := hml i hlt
      go_wp2
      go_region_held3 (fun w' => w'.cell? ⟨w.heap.size, 0, none⟩ = some (.slice (some ⟨bp, op, none⟩) np nc) ∧ w'.cell? ⟨w.heap.size + 1, 0, none⟩ = some (.slice (some ⟨bq, oq, none⟩) np nc') ∧ w'.cell? ⟨bp, op + i, none⟩ = some (.slice lp (P i).n lc) ∧ w'.cell? ⟨bq, oq + i, none⟩ = some (.slice lq (P i).n lqc)) (go_keep) (fail)
      go_wp2
      have hBd := Below.join hB (Nat.le_refl _) (Below.refl wr.heap.size wr).drew
      clear x1 y1 p1 q1 hB
      go_loopw [39] (fun cc wq => ∃ m : Nat, m ≤ (P i).n ∧ cc = .int .i64 m ∧ Below W.heap.size W wq) (fun cc _ => (P i).n - (intOf cc).toNat)
      case atStart => exact ⟨0, Nat.zero_le _, rfl, hBd⟩
      case round =>
        clear hBd
        obtain ⟨m, hm, rfl, hB⟩ := hrel
        by_cases hmlt : m < (P i).n
        · have hmlt' : (m : Int) < ((P i).n : Int) := by omega
          have hm0 : (0 : Int) ≤ (m : Int) := by omega
          obtain ⟨b3, o3, rfl, _, _, r0⟩ := hin m hmlt
          obtain ⟨b4, o4, rfl, _, _, s0⟩ := hjn m hmlt
          have x1 := cellLater hB x0
          have y1 := cellLater hB y0
          have p1 := cellLater hB p0
          have q1 := cellLater hB q0
          have r1 := cellLater hB r0
          have s1 := cellLater hB s0
          go_wp2
          go_region_held3 (fun w' => w'.cell? ⟨w.heap.size, 0, none⟩ = some (.slice (some ⟨bp, op, none⟩) np nc) ∧ w'.cell? ⟨w.heap.size + 1, 0, none⟩ = some (.slice (some ⟨bq, oq, none⟩) np nc') ∧ w'.cell? ⟨bp, op + i, none⟩ = some (.slice (some ⟨b3, o3, none⟩) (P i).n lc) ∧ w'.cell? ⟨bq, oq + i, none⟩ = some (.slice (some ⟨b4, o4, none⟩) (P i).n lqc) ∧ w'.cell? ⟨b3, o3 + m, none⟩ = some (.int .i64 ((P i).s m)) ∧ w'.cell? ⟨b4, o4 + m, none⟩ = some (.int .i64 ((P i).s m))) (go_keep) (fail)
          go_wp2
          go_roundw
          case rel => exact ⟨m + 1, by omega, rfl, Below.join hB (Nat.le_refl _) (Below.refl _ _).drew⟩
          case measure => simp only [intOf]; omega
        · obtain rfl : m = (P i).n := by omega
          go_wp2
          go_roundw
          case rel => exact ⟨i + 1, by omega, rfl, hB⟩
          case measure => simp only [intOf]; omega
    · obtain rfl : i = np := by omega
      go_wp2
      go_ret
      exact ⟨rfl, Below.join hA (Nat.le_refl _) hB⟩
end Go.Proofs.YtnjaegeapcijpaaDoor
