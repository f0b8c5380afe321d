/-
  The program's Order: what it answers. The model's Order, at every argument.
-/
import Derived.Test.YtmmkggkneefhoabGreatDoorSortO
import Derived.Test.YtmmkggkneefhoabGreatDoorSpecO
import Derived.Test.YtmmkggkneefhoabGreatDoorImplD
import Derived.Shelf.SlSortCmp.NoneTotal
import Derived.Lib.OwnBridge
import Derived.Test.YtmmkggkneefhoabGreatDoorSpecE
namespace Go.Proofs.YtmmkggkneefhoabGreatDoor
open Go.RowKit Go.Shelf Go.Lib Go.Sort

theorem holdCells_get (L : List HoldD) (j : Nat) (hj : j < L.length * 3) : (holdCells L)[j]? = some (encH (L.toArray[j / 3]!))[j % 3]! := by
  have hr : j / 3 < L.length := by omega
  obtain ⟨h0, h1, h2⟩ := holdCells_at L (j / 3) L[j / 3] (List.getElem?_eq_getElem hr)
  have e : L.toArray[j / 3]! = L[j / 3] := by simp [getElem!_pos, hr]
  rw [e]
  have hm : j % 3 = 0 ∨ j % 3 = 1 ∨ j % 3 = 2 := by omega
  rcases hm with hm | hm | hm
  · have : j = j / 3 * 3 := by omega
    rw [hm, show (holdCells L)[j]? = (holdCells L)[j / 3 * 3]? from congrArg (fun t => (holdCells L)[t]?) this, h0]; rfl
  · have : j = j / 3 * 3 + 1 := by omega
    rw [hm, show (holdCells L)[j]? = (holdCells L)[j / 3 * 3 + 1]? from congrArg (fun t => (holdCells L)[t]?) this, h1]; rfl
  · have : j = j / 3 * 3 + 2 := by omega
    rw [hm, show (holdCells L)[j]? = (holdCells L)[j / 3 * 3 + 2]? from congrArg (fun t => (holdCells L)[t]?) this, h2]; rfl
theorem holdsK_of {W : World} {b0 g n cap : Nat} {L : List HoldD} (hn : L.length = n) (h : W.ownsRow b0 96 3 (.slice (some ⟨g, 0, none⟩) n cap) n (holdCells L)) : HoldsK encH 3 W g 0 L.toArray := by
  intro j hj
  rw [size_flatK] at hj
  have hj' : j < L.length * 3 := by simpa using hj
  rw [get_flatK _ _ _ _ hj, Nat.zero_add, h.cellAt j (by omega), holdCells_get L j hj']
  exact ⟨rfl, h.frozenAt j⟩
theorem below_grow_os {B : Nat} {A w : World} (h : Below B A w) (hB : B ≤ w.heap.size) (os : Array Obj) : Below B A (grow w os) :=
  ⟨h.os, h.tape, h.output, by have := h.size; simp [grow]; omega, fun k hk => by
    have : (grow w os).heap[k]? = w.heap[k]? := by simp only [grow]; exact Array.getElem?_append_left (by omega)
    rw [this]; exact h.block k hk⟩

/-- the sort, as the program calls it -/
theorem sortHold_any (b0 : Nat) (v : Value) (L : List HoldD) (w : World) (hb : b0 ≤ w.heap.size) (hl : L.length ≤ 1000) (ho : w.ownsRow b0 96 3 v L.length (holdCells L)) :
    Calls Tryz.prog 59 #[v, .func (.func 60) #[] #[]] w fun e w' => e = .returned (.tuple #[]) ∧ (∃ M : List HoldD, M.Perm L ∧ M.Pairwise (fun x y => ltH y x = false) ∧ IsHolds w' v M) ∧ Below b0 w w' := by
  rcases ho.2 with ⟨rfl, h0⟩ | ⟨g, cap, cur, rfl, hbg, hgg, _⟩
  · obtain rfl : L = [] := List.eq_nil_of_length_eq_zero h0
    have hcon := AnyF.slices_SortFunc_none Tryz.sortHold none 0 (.func (.func 60) #[] #[]) w
    change Calls Tryz.prog 59 _ _ _ at hcon
    refine hcon.mono ?_
    rintro e w' ⟨rfl, rfl⟩
    exact ⟨rfl, ⟨[], List.Perm.refl _, List.Pairwise.nil, ⟨none, 0, rfl, fun r h hr => by simp at hr⟩⟩, Below.refl _ _⟩
  · have eg : ∀ args w, (callFunc 60 args).run Tryz.prog w = .ok (.enter 60 args) w := enters_of Tryz.func60 (by kernel_rfl) rfl
    have hH := holdsK_of (L := L) rfl ho
    have hcon := AnyQ.slices_SortFunc Tryz.sortHold 3 Tryz.isAgg96 Tryz.sizeOf96 encH (fun _ => rfl) (fun x u hu => by simp [encH] at hu; rcases hu with rfl | rfl | rfl <;> rfl) cfH swoH 60 #[] g 0 cap L.toArray w eg (fun _ _ _ _ x y => closureO_any x y _) hH (ho.lt g rfl).2 (by simp; omega)
    change Calls Tryz.prog 59 _ _ _ at hcon
    simp only [List.size_toArray] at hcon
    refine hcon.mono ?_
    rintro e w' ⟨rfl, d', n, os, hp, hs, rfl⟩
    have hgw := (ho.lt g rfl).2
    have hds : d'.size = L.length := by have := hp.1; simpa using this
    have hK : HoldsK encH 3 (sortWorldK encH 3 w g 0 n d' os) g 0 d' := by
      unfold sortWorldK
      refine holdsK_grow encH 3 _ os g 0 d' ?_ (holdsK_putRowK encH 3 _ g 0 L.toArray d' (holdsK_ahead encH 3 w n g 0 _ hH) (by simpa using hds))
      have : (putRowK encH 3 (Sort.ahead w n) g 0 d').heap.size = w.heap.size := by simp [putRowK, putRow, mapBlock, Sort.ahead]
      omega
    have hBl : Below b0 w (sortWorldK encH 3 w g 0 n d' os) := by
      unfold sortWorldK putRowK
      refine below_grow_os (below_putRow (Below.refl b0 w) hbg) ?_ os
      have : (putRow id (Sort.ahead w n) g 0 (flatK encH 3 d')).heap.size = w.heap.size := by simp [putRow, mapBlock, Sort.ahead]
      omega
    refine ⟨rfl, ⟨d'.toList, ?_, ?_, ?_⟩, hBl⟩
    · have h3 := hp.2.2
      have e1 : d'.extract 0 L.length = d' := by rw [← hds]; simp
      have e2 : L.toArray.extract 0 L.length = L.toArray := by simp
      rw [e1, e2] at h3
      exact h3
    · rw [List.pairwise_iff_getElem]
      intro i j hi hj hij
      have := hs i j (Nat.zero_le _) hij (by simpa [hds] using hj)
      rw [cfH_lt] at this
      have hi' : i < d'.size := by simpa using hi
      have hj' : j < d'.size := by simpa using hj
      rw [getElem!_pos d' j hj', getElem!_pos d' i hi'] at this
      simpa using this
    · refine ⟨_, cap, by simp [hds], fun r x hx => ⟨g, 0, rfl, ?_⟩⟩
      have hr : r < d'.size := by
        rcases Nat.lt_or_ge r d'.size with h | h
        · exact h
        · rw [List.getElem?_eq_none (by simpa using h)] at hx; cases hx
      have hx' : d'[r]! = x := by
        have : d'.toList[r]? = some d'[r] := by simp [hr]
        rw [hx] at this
        cases this
        simp [getElem!_pos, hr]
      have c0 := (hK.cell hr (c := 0) (by omega)).1
      have c1 := (hK.cell hr (c := 1) (by omega)).1
      have c2 := (hK.cell hr (c := 2) (by omega)).1
      rw [hx'] at c0 c1 c2
      exact ⟨c0, c1, c2⟩

theorem strict_of {len np : Nat} {f : Nat → TrainD} {P : Nat → RowD} {g : Nat → Int} {gap : Int} (hz : clashOf len g gap np f np P = (0, 0, 0, 0)) : ∀ i, i < np → ∀ k, k + 1 < (P i).n → (P i).s k < (P i).s (k + 1) := by
  obtain ⟨hF, hS⟩ := clashOf_ok hz
  have hR := rightL_of (faultOf_snd hF)
  have hQ := rightP_of hS
  intro i hi k hk
  rw [hQ.row i hi] at hk
  have hready : ∀ i, i < np → ∀ k, k < (f i).nl → readyOf f P i k ≤ (P i).s k := by
    intro i hi k hk
    rcases Int.lt_or_le ((P i).s k) (readyOf f P i k) with h | h
    · exfalso
      unfold clashOf at hz
      rw [if_pos ⟨hF, hS⟩] at hz
      split at hz
      · simp at hz
      · rename_i hn
        have := first2_all hn i hi k hk
        simp only [decide_eq_true_eq] at this
        omega
    · exact h
  have h1 := hready i hi (k + 1) hk
  obtain ⟨l0, l1, l2, l3⟩ := (hR.train i hi).leg k (by omega)
  obtain ⟨m0, m1, m2, m3⟩ := (hR.train i hi).leg (k + 1) hk
  simp only [readyOf] at h1
  omega

structure Begun (W wr : World) (v : Value) (L : List HoldD) : Prop where
  own : wr.ownsRow W.heap.size 96 3 v L.length (holdCells L)
  below : Below W.heap.size W wr
theorem Begun.one {W wr w' : World} {v v' : Value} {L : List HoldD} {m : HoldD} (h : Begun W wr v L) (ho : w'.ownsRow W.heap.size 96 3 v' (L.length + 1) (holdCells L ++ [.int .i64 m.tr, .int .i64 m.frm, .int .i64 m.free])) (hg : wr.grownBy w' v.ownBlock) : Begun W w' v' (L ++ [m]) :=
  ⟨by rw [holdCells_snoc, List.length_append]; exact ho, h.below.grown hg h.below.size (fun k hk => (h.own.lt k hk).1)⟩
theorem Begun.later {W wr w' : World} {v : Value} {L : List HoldD} (h : Begun W wr v L) (hB : Below wr.heap.size wr w') : Begun W w' v L := ⟨ownsRow_later h.own hB, Below.join h.below (Nat.le_refl _) hB⟩

theorem rowSum_mono (P : Nat → RowD) : ∀ {i n : Nat}, i ≤ n → rowSum P i ≤ rowSum P n
  | i, 0, h => by obtain rfl : i = 0 := (by omega); exact Nat.le_refl _
  | i, n + 1, h => by
    by_cases e : i = n + 1
    · subst e; exact Nat.le_refl _
    · have := rowSum_mono P (i := i) (n := n) (by omega); simp only [rowSum]; omega

set_option maxRecDepth 20000 in
set_option maxHeartbeats 8000000 in
theorem implOrder_any (a : Option Addr) (len cap : Nat) (g : Nat → Int) (gap : Int) (a' : Option Addr) (len' cap' : Nat) (f : Nat → TrainD) (c : Option Addr) (np nc : Nat) (P : Nat → RowD) (w : World) (hl : len ≤ 1048576) (hl' : len' ≤ 1048576) (hml : ∀ j, j < len' → (f j).nl ≤ 1048576) (hp : np ≤ 1048576) (hmp : ∀ j, j < np → (P j).n ≤ 1048576)
    (hI : IsInts 0 w.heap.size w a len g) (hT : IsTrains 0 w.heap.size w a' len' f) (hP : IsRows 0 w.heap.size w c np P) (hC : Caps w c np) (hg : w.cell? ⟨0, 0, none⟩ = some (.iface 259 (.agg #[.pointer (some ⟨1, 177, none⟩)]))) :
    Calls Tryz.prog 27 #[.agg #[.slice a len cap, .int .i64 gap, .slice a' len' cap'], .agg #[.slice c np nc]] w fun e w' => (∃ v, e = .returned v ∧ w'.ownsRow w.heap.size 3 1 v (orderOf len g gap len' f np P).length (intCells (orderOf len g gap len' f np P))) ∧ Below w.heap.size w w' := by
  obtain ⟨y0, y1, y2, u0⟩ := box2 w a len cap gap a' len' cap' c np nc 35 29
  have hN := b2 w (.cells #[.slice a len cap, .int .i64 gap, .slice a' len' cap'] 35) (.cells #[.slice c np nc] 29)
  have hCh := implCheck_any a len cap g gap a' len' cap' f c np nc P _ hl hl' hml hp hmp (hI.grow hN) (hT.grow hN) (hP.grow hN) (hC.later hN) (cellLater hN hg)
  rcases clashOf_or len g gap len' f np P with hz | hz
  · have hA : orderOf len g gap len' f np P = outAt P len' (rowSum P len') := by unfold orderOf; rw [if_pos hz]
    obtain ⟨hF, hS⟩ := clashOf_ok hz
    have hF0 := faultOf_snd hF
    have hR := rightL_of hF0
    have hQ := rightP_of hS
    obtain rfl : np = len' := hQ.np
    have hst := strict_of hz
    rw [hA]
    rw [hz] at hCh
    dsimp only [clashV] at hCh
    clear hA hz hF hF0 hS
    have htr := hR.tr
    obtain ⟨i0, hi, hz0, hz1, hz2⟩ := info_parts Tryz.infoHold
    obtain ⟨i1, gi, gz0, gz1, gz2⟩ := info_parts Tryz.infoInt
    have hn10 : ∀ i, i < np → (P i).n ≤ 10 := fun i hi => by rw [hQ.row i hi]; exact (hR.train i hi).nl
    have hsum := rowSum_le (P := P) np hn10
    have hsumi := fun i (h : i ≤ np) => rowSum_mono P h
    go_enter Tryz.func27, Tryz.ntmps27
    go_wp2_with (go_at_call 53; refine hCh.mono ?_; rintro _ W ⟨rfl, hB2⟩; have hB := Below.join hN (Nat.le_refl _) hB2; have x3 := cellLater hB2 u0)
    clear hB2 hCh y0 y1 y2 u0 hN
    go_loopw [5, 21] (fun v ii wr => ∃ (i : Nat), i ≤ np ∧ ii = .int .i64 i ∧ Begun W wr v (begunAll P i)) (fun _ ii _ => np - (intOf ii).toNat)
    case atStart => exact ⟨0, Nat.zero_le _, rfl, World.ownsRow_nil _ _ _ _, Below.refl _ _⟩
    case round =>
      obtain ⟨i, hin, rfl, hG⟩ := hrel
      by_cases hlt : i < np
      · have hi' : (i : Int) < (np : Int) := by omega
        have hi0' : (0 : Int) ≤ (i : Int) := by omega
        have hni := hn10 i hlt
        have hli : (begunAll P i).length ≤ 50 := by rw [begunAll_len]; have := hsumi i hin; omega
        obtain ⟨bp, op, lp, lpc, rfl, _, hbp, p0, hinr, _⟩ := hP i hlt
        have p1 := cellLater (Below.join hB (Nat.le_refl _) hG.below) p0
        go_wp2
        clear p1
        go_loopw [5, 28] (fun v kk wr2 => ∃ (k : Nat), k ≤ (P i).n ∧ kk = .int .i64 k ∧ Begun W wr2 v (begunAll P i ++ begunRow P i k)) (fun _ kk _ => (P i).n - (intOf kk).toNat)
        case atStart => exact ⟨0, Nat.zero_le _, rfl, by simpa [begunRow] using hG⟩
        case round =>
          obtain ⟨k, hk, rfl, hG2⟩ := hrel
          by_cases hklt : k < (P i).n
          · have hk' : (k : Int) < ((P i).n : Int) := by omega
            have hk0 : (0 : Int) ≤ (k : Int) := by omega
            have hLk : (begunAll P i ++ begunRow P i k).length ≤ 100 := by rw [List.length_append, begunRow_len]; omega
            have hBr := Below.join hB (Nat.le_refl _) hG2.below
            obtain ⟨bi, oi, rfl, _, hbi, q0⟩ := hinr k hklt
            replace q0 := cellLater hBr q0
            have hE' : begunAll P i ++ begunRow P i (k + 1) = (begunAll P i ++ begunRow P i k) ++ [⟨i, (P i).s k, 0⟩] := by simp [begunRow]
            have hE : Hid _ := hE'
            clear hE'
            generalize begunAll P i ++ begunRow P i k = L at hG2 hLk hE
            have hsz := hG2.below.size
            go_wp2_with (at_builtin; refine wpList_append_own _ rfl _ _ 94 rfl W.heap.size 96 i0 _ 3 24 Tryz.underlying94 hi hz0 hz1 hz2 rfl (by decide) _ _ _ rfl (hG2.own.alloc _) ⟨wr.heap.size, 0, none⟩ 1 1 [.int .i64 i, .int .i64 ((P i).s k), .int .i64 0] rfl rfl cells3_lie one3 (by unfold maxLen; omega) (by omega) (by simp only [World.size_alloc]; omega) ?_)
            intro v' w6 hown' hgrow _
            have hG3 := (hG2.later (b1 wr (.cells #[.int .i64 i, .int .i64 ((P i).s k), .int .i64 0] 96))).one (m := ⟨i, (P i).s k, 0⟩) hown' hgrow
            clear hown' hgrow
            go_wp2
            go_roundw
            case rel => exact ⟨k + 1, by omega, by go_num, by rw [hE.out]; exact hG3⟩
            case measure => simp [intOf]; omega
          · obtain rfl : k = (P i).n := by omega
            go_wp2
            go_roundw
            case rel => exact ⟨i + 1, by omega, by go_num, by simpa only [begunAll] using hG2⟩
            case measure => simp [intOf]; omega
      · obtain rfl : i = np := by omega
        have hll : (begunAll P i).length ≤ 50 := by rw [begunAll_len]; omega
        have hSo := sortHold_any W.heap.size u5 (begunAll P i) wr hG.below.size (by omega) hG.own
        go_wp2_with (go_at_call 59; refine hSo.mono ?_; rintro _ W2 ⟨rfl, ⟨M, hPm, hSd, hM⟩, hB6⟩; obtain ⟨am, cm, rfl, hMc⟩ := hM)
        have hfin := out_eq (P := P) (n := i) hst hPm hSd
        have hMl : M.length = (begunAll P i).length := hPm.length_eq
        have hMlen : M.length = rowSum P i := by rw [hMl, begunAll_len]
        have hM50 : M.length ≤ 50 := by omega
        have hfin' : Hid _ := hfin
        have hMlen' : Hid _ := hMlen
        have hBW2 : Below w.heap.size w W2 := Below.join hB (Nat.le_refl _) (hG.below.trans hB6)
        have hMc' : Hid _ := hMc
        clear hfin hMlen hMl hSo hG hPm hSd hB6 hMc
        generalize hm : M.length = mm at hM50
        have hm' : Hid _ := hm
        go_wp2
        go_loopw [10, 44] (fun v kk wr => ∃ (k : Nat), k ≤ mm ∧ kk = .int .i64 k ∧ wr.ownsRow W2.heap.size 3 1 v k (intCells ((M.take k).map HoldD.tr)) ∧ Below W2.heap.size W2 wr) (fun _ kk _ => mm - (intOf kk).toNat)
        case atStart => exact ⟨0, Nat.zero_le _, rfl, World.ownsRow_nil _ _ _ _, Below.refl _ _⟩
        case round =>
          obtain ⟨k, hk, rfl, hown, hBk⟩ := hrel
          by_cases hklt : k < mm
          · have hk' : (k : Int) < (mm : Int) := by omega
            have hk0 : (0 : Int) ≤ (k : Int) := by omega
            have hMk : M[k]? = some (M[k]'(by have := hm'.out; omega)) := List.getElem?_eq_getElem _
            generalize M[k]'(by have := hm'.out; omega) = x at hMk
            obtain ⟨gm, om, rfl, c0, c1, c2⟩ := hMc'.out k x hMk
            replace c0 := cellLater hBk c0
            replace c1 := cellLater hBk c1
            replace c2 := cellLater hBk c2
            have hE' : intCells ((M.take (k + 1)).map HoldD.tr) = intCells ((M.take k).map HoldD.tr) ++ [.int .i64 (x.tr : Int)] := by rw [List.take_add_one, hMk]; simp [intCells]
            have hE : Hid _ := hE'
            clear hE' hMk
            have hA5 := b1 wr (.cells #[.int .i64 x.tr, .int .i64 x.frm, .int .i64 x.free] 96)
            obtain ⟨n0, n1, n2⟩ := new3 wr (.int .i64 x.tr) (.int .i64 x.frm) (.int .i64 x.free) 96
            have hsz := hBk.size
            have hownA := hown.alloc (.cells #[.int .i64 x.tr, .int .i64 x.frm, .int .i64 x.free] 96)
            go_wp2_with (at_builtin; refine wpList_append_own _ rfl _ _ 22 rfl W2.heap.size 3 i1 _ 1 8 Tryz.underlying22 gi gz0 gz1 gz2 rfl (by decide) _ _ _ rfl (hownA.alloc _) ⟨wr.heap.size + 1, 0, none⟩ 1 1 [.int .i64 x.tr] rfl rfl (fun j u hj => by have h := cells1_lie (W := wr.alloc (.cells #[.int .i64 x.tr, .int .i64 x.frm, .int .i64 x.free] 96)) (x := .int .i64 x.tr) (t := 3) j u hj; rw [World.size_alloc] at h; exact h) one1 (by unfold maxLen; omega) (by omega) (by simp only [World.size_alloc]; omega) ?_)
            intro v' w6 hown' hgrow _
            have hBk6 : Below W2.heap.size W2 w6 := (Below.join (Below.join hBk (Nat.le_refl _) hA5) (Nat.le_refl _) (b1 _ (.cells #[.int .i64 x.tr] 3))).grown hgrow (by simp only [World.size_alloc]; omega) (fun j hj => (hown.lt j hj).1)
            clear hgrow hown hownA
            go_wp2
            go_roundw
            case rel => exact ⟨k + 1, by omega, by go_num, by rw [hE.out, List.map_take]; exact hown', hBk6⟩
            case measure => simp [intOf]; omega
          · obtain rfl : k = mm := by omega
            go_wp2
            go_ret
            refine ⟨⟨_, rfl, ?_⟩, Below.join hBW2 (Nat.le_refl _) hBk⟩
            rw [outAt_len, ← hfin'.out, ← hMlen'.out]
            rw [← hm'.out, List.take_length] at hown
            rw [hm'.out] at hown ⊢
            exact Joins.ownsRow_le hown hBW2.size
  · have hA : orderOf len g gap len' f np P = [] := by unfold orderOf; rw [if_neg (fun h => hz (by rw [h]))]
    rw [hA]
    clear hA
    generalize clashOf len g gap len' f np P = vq at hz hCh
    obtain ⟨v0, v1, v2, v3⟩ := vq
    dsimp only [clashV] at hz hCh
    have hz' : (v0 == 0) = false := by simpa using hz
    go_enter Tryz.func27, Tryz.ntmps27
    go_wp2_with (go_at_call 53; refine hCh.mono ?_; rintro _ w2 ⟨rfl, hB2⟩)
    go_ret
    exact ⟨⟨.slice none 0 0, rfl, World.ownsRow_nil _ _ _ _⟩, Below.join hN (Nat.le_refl _) hB2⟩

theorem specOrder_any (a : Option Addr) (len cap : Nat) (g : Nat → Int) (gap : Int) (a' : Option Addr) (len' cap' : Nat) (f : Nat → TrainD) (c : Option Addr) (np nc : Nat) (P : Nat → RowD) (w : World) (hl : len ≤ 1048576) (hl' : len' ≤ 1048576) (hml : ∀ j, j < len' → (f j).nl ≤ 1048576) (hp : np ≤ 1048576) (hmp : ∀ j, j < np → (P j).n ≤ 1048576)
    (hI : IsInts 0 w.heap.size w a len g) (hT : IsTrains 0 w.heap.size w a' len' f) (hP : IsRows 0 w.heap.size w c np P) :
    Calls Tryz.prog 25 #[.agg #[.slice a len cap, .int .i64 gap, .slice a' len' cap'], .agg #[.slice c np nc]] w fun e w' => (∃ v, e = .returned v ∧ w'.ownsRow w.heap.size 3 1 v (orderOf len g gap len' f np P).length (intCells (orderOf len g gap len' f np P))) ∧ Below w.heap.size w w' := by
  have hN := b2 w (.cells #[.slice a len cap, .int .i64 gap, .slice a' len' cap'] 35) (.cells #[.slice c np nc] 29)
  exact specOrder_from a len cap g gap a' len' cap' f c np nc P w hT hP (specCheck_any a len cap g gap a' len' cap' f c np nc P _ hl hl' hml hp hmp (hI.grow hN) (hT.grow hN) (hP.grow hN))
end Go.Proofs.YtmmkggkneefhoabGreatDoor
