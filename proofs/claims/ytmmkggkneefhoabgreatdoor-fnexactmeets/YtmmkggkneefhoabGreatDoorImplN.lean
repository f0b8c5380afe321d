/-
  When a train is where, by the program: a row of stands. Where two trains meet, by the program.
-/
import Derived.Test.YtmmkggkneefhoabGreatDoorSpecM
import Derived.Test.YtmmkggkneefhoabGreatDoorApp
import Derived.Test.YtmmkggkneefhoabGreatDoorImplS
import Derived.Test.YtmmkggkneefhoabGreatDoorPlansC
namespace Go.Proofs.YtmmkggkneefhoabGreatDoor
open Go.RowKit

theorem Tryz.infoStand : (Tryz.prog.info? 169).map (fun i => (i.zero, i.size, i.bytes)) = some (some (.agg #[.int .i64 0, .int .i64 0, .int .i64 0]), 3, 24) := by kernel_rfl

theorem stands_step {W wr w' : World} {v v' : Value} {t : TrainD} {r : RowD} {k : Nat} {B : Nat} (hB : Below B W wr) (hBs : B ≤ wr.heap.size) (h : wr.ownsRow B 169 3 v k (standCells (standsUpto t r k)))
    (ho : w'.ownsRow B 169 3 v' (k + 1) (standCells (standsUpto t r k) ++ [.int .i64 (cur t k), .int .i64 (fromOf t r k), .int .i64 (toOf t r k)])) (hg : wr.grownBy w' v.ownBlock) :
    w'.ownsRow B 169 3 v' (k + 1) (standCells (standsUpto t r (k + 1))) ∧ Below B W w' :=
  ⟨by simp only [standsUpto, standCells_app]; exact ho, hB.grown hg hBs (fun j hj => (h.lt j hj).1)⟩

set_option maxRecDepth 20000 in
set_option maxHeartbeats 4000000 in
theorem stands_any (t : TrainD) (r : RowD) (la : Option Addr) (lc : Nat) (sa : Option Addr) (sc : Nat) (w : World) (hR : RightT t) (hpos : 0 < t.nl) (hs : ∀ k, k < t.nl → 0 ≤ r.s k ∧ r.s k ≤ 1000000) (hsc : t.nl ≤ sc)
    (hL : IsLegs 0 w.heap.size w la t.nl t.leg) (hI : IsInts 0 w.heap.size w sa t.nl r.s) :
    Calls Tryz.prog 115 #[.agg #[.int .i64 t.frm, .int .i64 t.ready, .int .i64 t.due, .int .i64 t.weight, .slice la t.nl lc], .slice sa t.nl sc] w fun e w' => (∃ v, e = .returned v ∧ w'.ownsRow w.heap.size 169 3 v (t.nl + 1) (standCells (standsUpto t r (t.nl + 1)))) ∧ Below w.heap.size w w' := by
  obtain ⟨i0, hi, hz0, hz1, hz2⟩ := info_parts Tryz.infoStand
  have hnl := hR.nl
  have hA1 := b1 w (.cells #[.int .i64 t.frm, .int .i64 t.ready, .int .i64 t.due, .int .i64 t.weight, .slice la t.nl lc] 104)
  have hTb := Go.heap_alloc_new w (.cells #[.int .i64 t.frm, .int .i64 t.ready, .int .i64 t.due, .int .i64 t.weight, .slice la t.nl lc] 104)
  go_enter Tryz.func115, Tryz.ntmps115
  go_wp2
  refine nameW fun W hW => ?_
  rw [← hW] at hA1 hTb
  have e0 := cell_of_row W w.heap.size 0 _ _ _ hTb
  have e1 := cell_of_row W w.heap.size 1 _ _ _ hTb
  have e2 := cell_of_row W w.heap.size 2 _ _ _ hTb
  have e3 := cell_of_row W w.heap.size 3 _ _ _ hTb
  have e4 := cell_of_row W w.heap.size 4 _ _ _ hTb
  simp at e0 e1 e2 e3 e4
  clear hW hTb
  go_loopw [5, 6, 13] (fun v fr kk wr => ∃ (k : Nat), k ≤ t.nl ∧ kk = .int .i64 k ∧ fr = .int .i64 (fromOf t r k) ∧ wr.ownsRow W.heap.size 169 3 v k (standCells (standsUpto t r k)) ∧ Below W.heap.size W wr) (fun _ _ kk _ => t.nl - (intOf kk).toNat)
  case atStart => exact ⟨0, Nat.zero_le _, rfl, rfl, World.ownsRow_nil _ _ _ _, Below.refl _ _⟩
  case round =>
    obtain ⟨k, hk, rfl, rfl, hown, hB⟩ := hrel
    have hAw := Below.join hA1 (Nat.le_refl _) hB
    have d0 := cellLater hB e0
    have d1 := cellLater hB e1
    have d2 := cellLater hB e2
    have d3 := cellLater hB e3
    have d4 := cellLater hB e4
    have hL1 := hL.grow hAw
    have hszW := hB.size
    by_cases hlt : k < t.nl
    · have hk' : (k : Int) < (t.nl : Int) := by omega
      have hk0 : (0 : Int) ≤ (k : Int) := by omega
      have hkc : (k : Int) + 1 ≤ (sc : Int) := by omega
      have hn1 : (0 : Int) ≤ (k : Int) + 1 := by omega
      have hn2 : ((k : Int) + 1).toNat = k + 1 := by omega
      have hw1 : IntKind.i64.wrap ((k : Int) + 1) = (k : Int) + 1 := by rw [IntKind.wrap_i64]; omega
      have hn3 : ¬ ((k : Int) + 1 < 0) := by omega
      have hn4 : ¬ ((sc : Int) < (k : Int) + 1) := by omega
      have hto : toOf t r k = r.s k := by unfold toOf; rw [if_pos hlt]
      obtain ⟨bi, oi, rfl, _, hbi, q0⟩ := hI k hlt
      have hin1 : IsInts 0 w.heap.size w (some ⟨bi, oi, none⟩) (k + 1) r.s := fun j hj => hI j (by omega)
      have q1 := cellLater hAw q0
      have hcu := ahead_any t k la lc wr hk hnl hL1
      have hfr : fromOf t r (k + 1) = r.s k + (t.leg k).run := rfl
      rw [← hto] at q1
      have hto' : Hid _ := hto
      clear hto
      generalize hcv : cur t k = cv at hcu
      generalize htv : toOf t r k = tv at q1 hto'
      generalize hfv : fromOf t r k = fv at *
      have hcv' : Hid _ := hcv
      have htv' : Hid _ := htv
      have hfv' : Hid _ := hfv
      clear hcv htv hfv
      go_wp2_with (first | (go_at_call 122; refine hcu.mono ?_; rintro _ w3 ⟨rfl, hB3⟩; replace d0 := cellLater hB3 d0; replace d1 := cellLater hB3 d1; replace d2 := cellLater hB3 d2; replace d3 := cellLater hB3 d3; replace d4 := cellLater hB3 d4; clear hcu) | (at_builtin; refine wpList_append_own _ rfl _ _ 166 rfl W.heap.size 169 i0 _ 3 24 Tryz.underlying166 hi hz0 hz1 hz2 rfl (by decide) _ _ _ rfl ((ownsRow_later hown hB3).alloc _) ⟨w3.heap.size, 0, none⟩ 1 1 [.int .i64 cv, .int .i64 fv, .int .i64 tv] rfl rfl cells3_lie one3 (by unfold maxLen; omega) (by omega) (by have h2 := hB3.size; simp only [World.size_alloc]; omega) ?_))
      intro v' w6 hown' hgrow _
      have hR2 := stands_step (t := t) (r := r) (Below.join (Below.join hB (Nat.le_refl _) hB3) (Nat.le_refl _) (b1 w3 (.cells #[.int .i64 cv, .int .i64 fv, .int .i64 tv] 169))) (by have h2 := hB3.size; simp only [World.size_alloc]; omega) ((ownsRow_later hown hB3).alloc _) (by rw [hcv'.out, htv'.out, hfv'.out]; exact hown') hgrow
      obtain ⟨hown2, hB6⟩ := hR2
      have hAw6 := Below.join hA1 (Nat.le_refl _) hB6
      clear hown' hgrow hown d0 d1 d2 d3 d4 q1
      have d0 := cellLater hB6 e0
      have d1 := cellLater hB6 e1
      have d2 := cellLater hB6 e2
      have d3 := cellLater hB6 e3
      have d4 := cellLater hB6 e4
      have hEn := end_any t k la lc r.s (some ⟨bi, oi, none⟩) sc w6.drew hlt hR (hs k hlt).1 (hs k hlt).2 (hL.grow hAw6.drew) (hin1.grow hAw6.drew)
      go_wp2
      go_region_held3 (fun w' => w'.cell? ⟨w.heap.size, 0, none⟩ = some (.int .i64 t.frm) ∧ w'.cell? ⟨w.heap.size, 1, none⟩ = some (.int .i64 t.ready) ∧ w'.cell? ⟨w.heap.size, 2, none⟩ = some (.int .i64 t.due) ∧ w'.cell? ⟨w.heap.size, 3, none⟩ = some (.int .i64 t.weight) ∧ w'.cell? ⟨w.heap.size, 4, none⟩ = some (.slice la t.nl lc)) (first | go_keep | (go_split_ands; refine ⟨?_, ?_, ?_, ?_, ?_⟩ <;> exact cellLater hB7 (by assumption))) ((first | (go_at_call 89; refine hEn.mono ?_; rintro _ w7 ⟨rfl, hB7⟩)))
      go_wp2
      go_roundw
      case rel => exact ⟨k + 1, by omega, by go_num, by rw [hfr], ownsRow_later hown2 (Below.join (Below.refl _ _).drew (Nat.le_refl _) hB7), Below.join hB6.drew (Nat.le_refl _) hB7⟩
      case measure => simp [intOf]; omega
    · obtain rfl : k = t.nl := by omega
      have hto : toOf t r t.nl = fromOf t r t.nl := by unfold toOf; rw [if_neg (by omega)]
      have hcu := ahead_any t t.nl la lc wr (Nat.le_refl _) hnl hL1
      generalize hcv : cur t t.nl = cv at hcu
      generalize hfv : fromOf t r t.nl = fv at *
      have hcv' : Hid _ := hcv
      have hfv' : Hid _ := hfv
      have hto' : Hid _ := hto
      clear hcv hfv hto
      go_wp2_with (first | (go_at_call 122; refine hcu.mono ?_; rintro _ w3 ⟨rfl, hB3⟩; replace d0 := cellLater hB3 d0; clear hcu) | (at_builtin; refine wpList_append_own _ rfl _ _ 166 rfl W.heap.size 169 i0 _ 3 24 Tryz.underlying166 hi hz0 hz1 hz2 rfl (by decide) _ _ _ rfl ((ownsRow_later hown hB3).alloc _) ⟨w3.heap.size, 0, none⟩ 1 1 [.int .i64 cv, .int .i64 fv, .int .i64 fv] rfl rfl cells3_lie one3 (by unfold maxLen; omega) (by omega) (by have h2 := hB3.size; simp only [World.size_alloc]; omega) ?_))
      intro v' w6 hown' hgrow _
      have hR2 := stands_step (t := t) (r := r) (Below.join (Below.join hB (Nat.le_refl _) hB3) (Nat.le_refl _) (b1 w3 (.cells #[.int .i64 cv, .int .i64 fv, .int .i64 fv] 169))) (by have h2 := hB3.size; simp only [World.size_alloc]; omega) ((ownsRow_later hown hB3).alloc _) (by rw [hcv'.out, hto'.out, hfv'.out]; exact hown') hgrow
      obtain ⟨hown2, hB6⟩ := hR2
      go_wp2
      go_ret
      exact ⟨⟨_, rfl, Joins.ownsRow_le hown2 hA1.size⟩, Below.join hA1 (Nat.le_refl _) hB6⟩

/-- since X only the row that v was, or is, has been written -/
structure Put (X wr : World) (row : Option Nat) (v : Value) : Prop where
  grown : X.grownBy wr row
  loc : v.ownBlock = row ∨ ∀ b, v.ownBlock = some b → X.heap.size ≤ b
theorem Put.refl (X : World) (v : Value) : Put X X v.ownBlock v := ⟨⟨rfl, rfl, rfl, Nat.le_refl _, fun _ _ _ => rfl⟩, Or.inl rfl⟩
theorem Put.cell {X wr : World} {row : Option Nat} {v : Value} (h : Put X wr row v) {b o : Nat} {u : Value} (hb : some b ≠ row) (hc : X.cell? ⟨b, o, none⟩ = some u) : wr.cell? ⟨b, o, none⟩ = some u :=
  (World.cell?_of_block (w := X) (w' := wr) (a := ⟨b, o, none⟩) (h.grown.block b (ltCell hc) hb)).trans hc
theorem grownBy_trans {A B C : World} {row : Option Nat} (h : A.grownBy B row) (k : B.grownBy C row) : A.grownBy C row :=
  ⟨k.os.trans h.os, k.tape.trans h.tape, k.output.trans h.output, Nat.le_trans h.size k.size, fun b hb hr => (k.block b (Nat.lt_of_lt_of_le hb h.size) hr).trans (h.block b hb hr)⟩
theorem Put.later {X wr w' : World} {row : Option Nat} {v : Value} (h : Put X wr row v) (hB : Below wr.heap.size wr w') : Put X w' row v :=
  ⟨grownBy_trans h.grown ⟨hB.os, hB.tape, hB.output, hB.size, fun b hb _ => hB.block b hb⟩, h.loc⟩
theorem Put.step {X wr w' : World} {row : Option Nat} {v v' : Value} (h : Put X wr row v) (hg : wr.grownBy w' v.ownBlock) (hl : v'.ownBlock = v.ownBlock ∨ v'.ownBlock = some wr.heap.size) : Put X w' row v' := by
  refine ⟨⟨hg.os.trans h.grown.os, hg.tape.trans h.grown.tape, hg.output.trans h.grown.output, Nat.le_trans h.grown.size hg.size, fun b hb hr => ?_⟩, ?_⟩
  · refine (hg.block b (Nat.lt_of_lt_of_le hb h.grown.size) ?_).trans (h.grown.block b hb hr)
    intro e
    rcases h.loc with h' | h'
    · exact hr (e.trans h')
    · have := h' b e.symm; omega
  · rcases hl with e | e
    · rcases h.loc with h' | h'
      · exact Or.inl (e.trans h')
      · exact Or.inr (fun b hb => h' b (e.symm.trans hb))
    · refine Or.inr (fun b hb => ?_)
      rw [e] at hb
      cases hb
      exact h.grown.size

theorem wpList_append_at {P : Program} (w : World) {ops : Array Oper} {rest : List Oper} {o : Oper} {a : Act} {Q : Exit → Act → World → Prop} (hgd : o.guard = none) (s x : Operand) (t : TypeId)
    (ho : o.op = .call { callee := .builtin .append, args := #[s, x], argTypes := #[t, t] })
    (base : Nat) (e : TypeId) (i : TypeInfo) (z : Value) (size bytes : Nat) (ht : P.underlying t = some (.slice e)) (hi : P.info? e = some i) (hz : i.zero = some z)
    (hsize : i.size = size) (hby : i.bytes = bytes) (hzs : z.cells.size = size) (hsz : 0 < size)
    (v : Value) (n : Nat) (xs : List Value) (hs : a.eval s = v) (hown : w.ownsRow base e size v n xs)
    (ad : Addr) (m c : Nat) (news : List Value) (hx : a.eval x = .slice (some ad) m c) (hl : news.length = m * size) (hnews : ∀ j u, news[j]? = some u → w.cell? (ad.add j) = some u) (h1 : ∀ u ∈ news, u.oneCell' = true)
    (hbound : n + m ≤ maxLen) (hbytes : (n + m) * bytes ≤ 140737488355328) (hbase : base ≤ w.heap.size)
    (h : ∀ v' w', w'.ownsRow base e size v' (n + m) (xs ++ news) → w.grownBy w' v.ownBlock → (v'.ownBlock = v.ownBlock ∨ v'.ownBlock = some w.heap.size) → wpList P ops Q rest (a.put o.dst v') w') : wpList P ops Q (o :: rest) a w := by
  refine wpList_plain hgd fun K hK => ?_
  obtain ⟨v', w', hrun, r1, r2, _, r4⟩ := run_append_own_at (P := P) w base t o.type e i z size bytes ht hi hz hsize hby hzs hsz v n xs hown ad m c news hl hnews h1 hbound hbytes hbase
  unfold Oper.wp
  simp [execOp, ho, resolve, invoke, builtin, hs, hx, hrun, Result.andThen]
  exact hK _ _ (h v' w' r1 r2 r4)

theorem stand_cells {W : World} {b0 g cap : Nat} {t : TrainD} {r : RowD} {n : Nat} (h : W.ownsRow b0 169 3 (.slice (some ⟨g, 0, none⟩) n cap) n (standCells (standsUpto t r n))) {k : Nat} (hk : k < n) :
    W.cell? ⟨g, k * 3, none⟩ = some (.int .i64 (cur t k)) ∧ W.cell? ⟨g, k * 3 + 1, none⟩ = some (.int .i64 (fromOf t r k)) ∧ W.cell? ⟨g, k * 3 + 2, none⟩ = some (.int .i64 (toOf t r k)) := by
  obtain ⟨h0, h1, h2⟩ := standCells_at _ k _ (standsUpto_at t r n k hk)
  exact ⟨(h.cellAt _ (by omega)).trans h0, (h.cellAt _ (by omega)).trans h1, (h.cellAt _ (by omega)).trans h2⟩
theorem new3c (w : World) (x y z : Value) (t : TypeId) : (w.alloc (.cells #[x, y, z] t)).cell? ⟨w.heap.size, 0, none⟩ = some x ∧ (w.alloc (.cells #[x, y, z] t)).cell? ⟨w.heap.size, 1, none⟩ = some y ∧ (w.alloc (.cells #[x, y, z] t)).cell? ⟨w.heap.size, 2, none⟩ = some z := new3 w x y z t

set_option maxRecDepth 20000 in
set_option maxHeartbeats 16000000 in
theorem meetsOfI_any (a : Option Addr) (len cap : Nat) (gap : Int) (a' : Option Addr) (np cap' : Nat) (f : Nat → TrainD) (c : Option Addr) (nc : Nat) (P : Nat → RowD) (i j : Nat) (w : World)
    (hR : RightL len np f) (hQ : RightP np f np P) (hi : i < np) (hj : j < np) (hT : IsTrains 0 w.heap.size w a' np f) (hP : IsRows 0 w.heap.size w c np P) (hC : Caps w c np) :
    Calls Tryz.prog 66 #[.agg #[.slice a len cap, .int .i64 gap, .slice a' np cap'], .agg #[.slice c np nc], .int .i64 i, .int .i64 j] w fun e w' => (∃ v, e = .returned v ∧ w'.ownsRow w.heap.size 108 5 v (pairM f P i j ((f i).nl + 1)).length (meetCells (pairM f P i j ((f i).nl + 1)))) ∧ Below w.heap.size w w' := by
  obtain ⟨y0, y1, y2, u0⟩ := box2 w a len cap gap a' np cap' c np nc 35 29
  have hN := b2 w (.cells #[.slice a len cap, .int .i64 gap, .slice a' np cap'] 35) (.cells #[.slice c np nc] 29)
  obtain ⟨m0, hm, hz0, hz1, hz2⟩ := info_parts Tryz.infoMeet
  have htr := hR.tr
  have hRi := hR.train i hi
  have hRj := hR.train j hj
  have hnli := hRi.nl
  have hnlj := hRj.nl
  have hpi := hR.pos i hi
  have hpj := hR.pos j hj
  have hi' : (i : Int) < (np : Int) := by omega
  have hj' : (j : Int) < (np : Int) := by omega
  have hi0 : (0 : Int) ≤ (i : Int) := by omega
  have hj0 : (0 : Int) ≤ (j : Int) := by omega
  obtain ⟨b, off, la, lc, rfl, _, hb, t0, t1, t2, t3, t4, hlg, _⟩ := hT i hi
  obtain ⟨b', off', la', lc', ea, _, hb', t0', t1', t2', t3', t4', hlg', _⟩ := hT j hj
  simp only [Option.some.injEq, Addr.mk.injEq] at ea
  obtain ⟨rfl, rfl, _⟩ := ea
  obtain ⟨bp, op, lp, lpc, rfl, _, hbp, p0, hin, _⟩ := hP i hi
  obtain ⟨bp', op', lp', lpc', ep, _, hbp', p0', hin', _⟩ := hP j hj
  simp only [Option.some.injEq, Addr.mk.injEq] at ep
  obtain ⟨rfl, rfl, _⟩ := ep
  have hcap := hC.at hi p0
  have hcap' := hC.at hj p0'
  rw [hQ.row i hi] at p0 hin hcap
  rw [hQ.row j hj] at p0' hin' hcap'
  have hsi := fun k hk => hQ.at0 i hi k hk
  have hsj := fun k hk => hQ.at0 j hj k hk
  go_enter Tryz.func66, Tryz.ntmps66
  go_wp2
  refine nameW fun V0 hV0 => ?_
  rw [← hV0] at hN y0 y1 y2 u0
  have s0 := cellLater hN t0
  have s1 := cellLater hN t1
  have s2 := cellLater hN t2
  have s3 := cellLater hN t3
  have s4 := cellLater hN t4
  have r0 := cellLater hN p0
  have hSt := stands_any (f i) (P i) la lc lp lpc V0.drew hRi hpi hsi hcap (hlg.grow hN.drew) (hin.grow hN.drew)
  clear hV0
  go_region_held3 (fun w' => w'.cell? ⟨w.heap.size, 2, none⟩ = some (.slice (some ⟨b, off, none⟩) np cap') ∧ w'.cell? ⟨b, off + i * 5, none⟩ = some (.int .i64 (f i).frm) ∧ w'.cell? ⟨b, off + i * 5 + 1, none⟩ = some (.int .i64 (f i).ready) ∧ w'.cell? ⟨b, off + i * 5 + 2, none⟩ = some (.int .i64 (f i).due) ∧ w'.cell? ⟨b, off + i * 5 + 3, none⟩ = some (.int .i64 (f i).weight) ∧ w'.cell? ⟨b, off + i * 5 + 4, none⟩ = some (.slice la (f i).nl lc) ∧ w'.cell? ⟨w.heap.size + 1, 0, none⟩ = some (.slice (some ⟨bp, op, none⟩) np nc) ∧ w'.cell? ⟨bp, op + i, none⟩ = some (.slice lp (f i).nl lpc)) (first | go_keep | (go_split_ands; refine ⟨?_, ?_, ?_, ?_, ?_, ?_, ?_, ?_⟩ <;> exact cellLater hB1 (by assumption))) ((first | (go_at_call 115; refine hSt.mono ?_; rintro _ W ⟨⟨_, rfl, hO1⟩, hB1⟩; obtain ⟨g1, cp1, rfl⟩ := Joins.ownsRow_form hO1 (by omega))))
  have hBW := Below.join hN.drew (Nat.le_refl _) hB1
  have x2 := cellLater (Below.join (Below.refl V0.heap.size V0).drew (Nat.le_refl _) hB1) y2
  have x3 := cellLater (Below.join (Below.refl V0.heap.size V0).drew (Nat.le_refl _) hB1) u0
  have hg1 : g1 < W.heap.size := (hO1.lt g1 rfl).2
  have hStand := fun k hk => stand_cells hO1 (k := k) hk
  have lw2 := ltCell x2
  have lw3 := ltCell x3
  dsimp only at lw2 lw3
  clear hSt s0 s1 s2 s3 s4 r0 y0 y1 y2 u0 hN hB1 hO1
  go_wp2
  go_loopw [9, 28] (fun v kk wr => ∃ (k : Nat), k ≤ (f i).nl + 1 ∧ kk = .int .i64 k ∧ Got W wr v (pairM f P i j k)) (fun _ kk _ => (f i).nl + 1 - (intOf kk).toNat)
  case atStart => exact ⟨0, Nat.zero_le _, rfl, World.ownsRow_nil _ _ _ _, Below.refl _ _⟩
  case round =>
    obtain ⟨k, hkn, rfl, hG⟩ := hrel
    by_cases hklt : k < (f i).nl + 1
    · have hk' : (k : Int) < ((f i).nl : Int) + 1 := by omega
      have hk0 : (0 : Int) ≤ (k : Int) := by omega
      obtain ⟨c0, c1, c2⟩ := hStand k hklt
      replace c0 := cellLater hG.below c0
      replace c1 := cellLater hG.below c1
      replace c2 := cellLater hG.below c2
      have hpl := pairM_len P (i := i) (j := j) hnlj k
      have hA1 := b1 wr (.cells #[.int .i64 (cur (f i) k), .int .i64 (fromOf (f i) (P i) k), .int .i64 (toOf (f i) (P i) k)] 169)
      obtain ⟨n0, n1, n2⟩ := new3 wr (.int .i64 (cur (f i) k)) (.int .i64 (fromOf (f i) (P i) k)) (.int .i64 (toOf (f i) (P i) k)) 169
      have hBX := Below.join (Below.join hBW (Nat.le_refl _) hG.below) (Nat.le_refl _) hA1
      have z2 := cellLater hA1 (cellLater hG.below x2)
      have z3 := cellLater hA1 (cellLater hG.below x3)
      have lwr : W.heap.size ≤ wr.heap.size := hG.below.size
      go_wp2
      refine nameW fun V1 hV1 => ?_
      rw [← hV1] at hA1 n0 n1 n2 hBX z2 z3
      have s0 := cellLater hBX t0'
      have s1 := cellLater hBX t1'
      have s2 := cellLater hBX t2'
      have s3 := cellLater hBX t3'
      have s4 := cellLater hBX t4'
      have r0 := cellLater hBX p0'
      have hSt := stands_any (f j) (P j) la' lc' lp' lpc' V1.drew hRj hpj hsj hcap' (hlg'.grow hBX.drew) (hin'.grow hBX.drew)
      have hvs : V1.heap.size = wr.heap.size + 1 := by rw [hV1]; simp
      clear hV1 c0 c1 c2
      go_region_held3 (fun w' => w'.cell? ⟨w.heap.size, 2, none⟩ = some (.slice (some ⟨b, off, none⟩) np cap') ∧ w'.cell? ⟨b, off + j * 5, none⟩ = some (.int .i64 (f j).frm) ∧ w'.cell? ⟨b, off + j * 5 + 1, none⟩ = some (.int .i64 (f j).ready) ∧ w'.cell? ⟨b, off + j * 5 + 2, none⟩ = some (.int .i64 (f j).due) ∧ w'.cell? ⟨b, off + j * 5 + 3, none⟩ = some (.int .i64 (f j).weight) ∧ w'.cell? ⟨b, off + j * 5 + 4, none⟩ = some (.slice la' (f j).nl lc') ∧ w'.cell? ⟨w.heap.size + 1, 0, none⟩ = some (.slice (some ⟨bp, op, none⟩) np nc) ∧ w'.cell? ⟨bp, op + j, none⟩ = some (.slice lp' (f j).nl lpc')) (first | go_keep | (go_split_ands; refine ⟨?_, ?_, ?_, ?_, ?_, ?_, ?_, ?_⟩ <;> exact cellLater hB1 (by assumption))) ((first | (go_at_call 115; refine hSt.mono ?_; rintro _ X ⟨⟨_, rfl, hO2⟩, hB1⟩; obtain ⟨g2, cp2, rfl⟩ := Joins.ownsRow_form hO2 (by omega))))
      have hV1X := Below.join (Below.refl V1.heap.size V1).drew (Nat.le_refl _) hB1
      have n0' := cellLater hV1X n0
      have n1' := cellLater hV1X n1
      have n2' := cellLater hV1X n2
      have hGX := hG.later (Below.join hA1 (Nat.le_refl _) hV1X)
      have hg2 : wr.heap.size + 1 ≤ g2 := by have := (hO2.lt g2 rfl).1; simp at this; omega
      have hStand2 := fun m hm => stand_cells hO2 (k := m) hm
      have hrow : ∀ bb, Value.ownBlock _ = some bb → bb < wr.heap.size := fun bb hbb => (hG.own.lt bb hbb).2
      have hPX := Put.refl X u9
      obtain ⟨row, hrw⟩ : ∃ row, row = u9.ownBlock := ⟨_, rfl⟩
      rw [← hrw] at hrow hPX
      clear hrw
      generalize hpL' : pairM f P i j k = L at hG hGX hpl
      have hpL : Hid _ := hpL'
      clear hpL'
      clear hSt s0 s1 s2 s3 s4 r0 n0 n1 n2 hA1 hO2 hB1 hV1X hBX z2 z3
      go_wp2
      have hp1 : X.heap.size ≥ wr.heap.size + 1 := ltCell n0'
      clear hG
      generalize wr.heap.size = p1 at n0' n1' n2' hg2 hrow hp1 lwr hvs ⊢
      go_loopw [9, 44] (fun v mm wr4 => ∃ (m : Nat), m ≤ (f j).nl + 1 ∧ mm = .int .i64 m ∧ Got W wr4 v (L ++ rowM f P i j k m) ∧ Put X wr4 row v) (fun _ mm _ => (f j).nl + 1 - (intOf mm).toNat)
      case atStart => exact ⟨0, Nat.zero_le _, rfl, by simpa [rowM] using hGX, hPX⟩
      case round =>
        obtain ⟨m, hmn, rfl, hG4, hP4⟩ := hrel
        by_cases hmlt : m < (f j).nl + 1
        · have hm' : (m : Int) < ((f j).nl : Int) + 1 := by omega
          have hmm0 : (0 : Int) ≤ (m : Int) := by omega
          have hrow4 := rowM_len f P i j k m
          have hL4 : (L ++ rowM f P i j k m).length ≤ 200 := by rw [List.length_append]; omega
          have hstep : L ++ rowM f P i j k (m + 1) = (L ++ rowM f P i j k m) ++ meetOf i j (standOf (f i) (P i) k) (standOf (f j) (P j) m) := by rw [List.append_assoc]; rfl
          have hst : Hid _ := hstep
          clear hstep
          generalize L ++ rowM f P i j k m = L4 at hG4 hL4 hst
          have em : meetOf i j (standOf (f i) (P i) k) (standOf (f j) (P j) m) = if cur (f i) k = cur (f j) m ∧ maxI (fromOf (f i) (P i) k) (fromOf (f j) (P j) m) ≤ minI (toOf (f i) (P i) k) (toOf (f j) (P j) m) then [⟨i, j, cur (f i) k, maxI (fromOf (f i) (P i) k) (fromOf (f j) (P j) m), minI (toOf (f i) (P i) k) (toOf (f j) (P j) m)⟩] else [] := rfl
          have hem : Hid _ := em
          clear em
          generalize meetOf i j (standOf (f i) (P i) k) (standOf (f j) (P j) m) = MM at hst hem
          obtain ⟨q0, q1, q2⟩ := hStand2 m hmlt
          have hne1 : some p1 ≠ row := fun e => by have := hrow p1 e.symm; omega
          have hne2 : some g2 ≠ row := fun e => by have := hrow g2 e.symm; omega
          replace q0 := hP4.cell hne2 q0
          replace q1 := hP4.cell hne2 q1
          replace q2 := hP4.cell hne2 q2
          have d0 := hP4.cell hne1 n0'
          have d1 := hP4.cell hne1 n1'
          have d2 := hP4.cell hne1 n2'
          generalize cur (f i) k = xs at d0 hem
          generalize fromOf (f i) (P i) k = xf at d1 hem
          generalize toOf (f i) (P i) k = xt at d2 hem
          generalize cur (f j) m = ys at q0 hem
          generalize fromOf (f j) (P j) m = yf at q1 hem
          generalize toOf (f j) (P j) m = yt at q2 hem
          have hA5 := b1 wr (.cells #[.int .i64 ys, .int .i64 yf, .int .i64 yt] 169)
          obtain ⟨k0, k1, k2⟩ := new3 wr (.int .i64 ys) (.int .i64 yf) (.int .i64 yt) 169
          have hG5 := hG4.later hA5
          have hP5 := hP4.later hA5
          have lp1 := ltCell d0
          dsimp only at lp1
          replace d0 := cellLater hA5 d0
          replace d1 := cellLater hA5 d1
          replace d2 := cellLater hA5 d2
          clear hA5 hG4 hP4 hStand2 n0' n1' n2' hGX hPX
          by_cases hs : xs = ys
          · subst hs
            by_cases hf : xf < yf
            · have e1 : maxI xf yf = yf := if_pos hf
              by_cases ht : yt < xt
              · have e2 : minI xt yt = yt := if_pos ht
                by_cases hle : yf ≤ yt
                · have eM : Hid (MM = [⟨i, j, xs, yf, yt⟩]) := by unfold Hid; rw [hem.out, e1, e2, if_pos ⟨rfl, hle⟩]
                  clear hem e1 e2
                  go_wp2
                  refine nameW fun V5 hV5 => ?_
                  rw [← hV5] at hG5 hP5 d0 d1 d2 k0 k1 k2
                  clear hV5
                  go_region_held3 (fun w' => w'.cell? ⟨p1, 1, none⟩ = some (.int .i64 xf) ∧ w'.cell? ⟨p1, 2, none⟩ = some (.int .i64 xt) ∧ w'.cell? ⟨wr.heap.size, 1, none⟩ = some (.int .i64 yf) ∧ w'.cell? ⟨wr.heap.size, 2, none⟩ = some (.int .i64 yt)) (go_keep) (fail)
                  all_goals
                    go_wp2_with (first | (at_builtin; refine wpList_append_at _ rfl _ _ 58 rfl W.heap.size 108 m0 _ 5 40 Tryz.underlying58 hm hz0 hz1 hz2 rfl (by decide) _ _ _ rfl ((ownsRow_later hG5.own (Below.refl V5.heap.size V5).drew).alloc _) ⟨V5.heap.size, 0, none⟩ 1 1 [.int .i64 i, .int .i64 j, .int .i64 xs, .int .i64 yf, .int .i64 yt] rfl rfl cells5_lie one5 (by unfold maxLen; omega) (by omega) (by have h1 := hG5.below.size; simp only [World.size_alloc, World.size_drew]; omega) ?_))
                    intro v' w6 hown' hgrow hloc
                    have hB6 := Below.join (Below.refl V5.heap.size V5).drew (Nat.le_refl _) (b1 V5.drew (.cells #[.int .i64 i, .int .i64 j, .int .i64 xs, .int .i64 yf, .int .i64 yt] 108))
                    have hG6 := (hG5.later hB6).one (m := ⟨i, j, xs, yf, yt⟩) hown' hgrow
                    have hP6 := (hP5.later hB6).step hgrow (by simpa using hloc)
                    clear hown' hgrow
                    go_wp2
                    go_roundw
                    case rel => exact ⟨m + 1, by omega, by go_num, by rw [hst.out, eM.out]; exact hG6, hP6⟩
                    case measure => simp [intOf]; omega
                · have eM : Hid (MM = []) := by unfold Hid; rw [hem.out, e1, e2, if_neg (fun h => hle h.2)]
                  clear hem e1 e2
                  go_wp2
                  refine nameW fun V5 hV5 => ?_
                  rw [← hV5] at hG5 hP5 d0 d1 d2 k0 k1 k2
                  clear hV5
                  go_region_held3 (fun w' => w'.cell? ⟨p1, 1, none⟩ = some (.int .i64 xf) ∧ w'.cell? ⟨p1, 2, none⟩ = some (.int .i64 xt) ∧ w'.cell? ⟨wr.heap.size, 1, none⟩ = some (.int .i64 yf) ∧ w'.cell? ⟨wr.heap.size, 2, none⟩ = some (.int .i64 yt)) (go_keep) (fail)
                  all_goals
                    go_wp2
                    go_roundw
                    case rel => exact ⟨m + 1, by omega, by go_num, by rw [hst.out, eM.out, List.append_nil]; exact hG5.later (Below.refl V5.heap.size V5).drew, hP5.later (Below.refl V5.heap.size V5).drew⟩
                    case measure => simp [intOf]; omega
              · have e2 : minI xt yt = xt := if_neg ht
                by_cases hle : yf ≤ xt
                · have eM : Hid (MM = [⟨i, j, xs, yf, xt⟩]) := by unfold Hid; rw [hem.out, e1, e2, if_pos ⟨rfl, hle⟩]
                  clear hem e1 e2
                  go_wp2
                  refine nameW fun V5 hV5 => ?_
                  rw [← hV5] at hG5 hP5 d0 d1 d2 k0 k1 k2
                  clear hV5
                  go_region_held3 (fun w' => w'.cell? ⟨p1, 1, none⟩ = some (.int .i64 xf) ∧ w'.cell? ⟨p1, 2, none⟩ = some (.int .i64 xt) ∧ w'.cell? ⟨wr.heap.size, 1, none⟩ = some (.int .i64 yf) ∧ w'.cell? ⟨wr.heap.size, 2, none⟩ = some (.int .i64 yt)) (go_keep) (fail)
                  all_goals
                    go_wp2_with (first | (at_builtin; refine wpList_append_at _ rfl _ _ 58 rfl W.heap.size 108 m0 _ 5 40 Tryz.underlying58 hm hz0 hz1 hz2 rfl (by decide) _ _ _ rfl ((ownsRow_later hG5.own (Below.refl V5.heap.size V5).drew).alloc _) ⟨V5.heap.size, 0, none⟩ 1 1 [.int .i64 i, .int .i64 j, .int .i64 xs, .int .i64 yf, .int .i64 xt] rfl rfl cells5_lie one5 (by unfold maxLen; omega) (by omega) (by have h1 := hG5.below.size; simp only [World.size_alloc, World.size_drew]; omega) ?_))
                    intro v' w6 hown' hgrow hloc
                    have hB6 := Below.join (Below.refl V5.heap.size V5).drew (Nat.le_refl _) (b1 V5.drew (.cells #[.int .i64 i, .int .i64 j, .int .i64 xs, .int .i64 yf, .int .i64 xt] 108))
                    have hG6 := (hG5.later hB6).one (m := ⟨i, j, xs, yf, xt⟩) hown' hgrow
                    have hP6 := (hP5.later hB6).step hgrow (by simpa using hloc)
                    clear hown' hgrow
                    go_wp2
                    go_roundw
                    case rel => exact ⟨m + 1, by omega, by go_num, by rw [hst.out, eM.out]; exact hG6, hP6⟩
                    case measure => simp [intOf]; omega
                · have eM : Hid (MM = []) := by unfold Hid; rw [hem.out, e1, e2, if_neg (fun h => hle h.2)]
                  clear hem e1 e2
                  go_wp2
                  refine nameW fun V5 hV5 => ?_
                  rw [← hV5] at hG5 hP5 d0 d1 d2 k0 k1 k2
                  clear hV5
                  go_region_held3 (fun w' => w'.cell? ⟨p1, 1, none⟩ = some (.int .i64 xf) ∧ w'.cell? ⟨p1, 2, none⟩ = some (.int .i64 xt) ∧ w'.cell? ⟨wr.heap.size, 1, none⟩ = some (.int .i64 yf) ∧ w'.cell? ⟨wr.heap.size, 2, none⟩ = some (.int .i64 yt)) (go_keep) (fail)
                  all_goals
                    go_wp2
                    go_roundw
                    case rel => exact ⟨m + 1, by omega, by go_num, by rw [hst.out, eM.out, List.append_nil]; exact hG5.later (Below.refl V5.heap.size V5).drew, hP5.later (Below.refl V5.heap.size V5).drew⟩
                    case measure => simp [intOf]; omega
            · have e1 : maxI xf yf = xf := if_neg hf
              by_cases ht : yt < xt
              · have e2 : minI xt yt = yt := if_pos ht
                by_cases hle : xf ≤ yt
                · have eM : Hid (MM = [⟨i, j, xs, xf, yt⟩]) := by unfold Hid; rw [hem.out, e1, e2, if_pos ⟨rfl, hle⟩]
                  clear hem e1 e2
                  go_wp2
                  refine nameW fun V5 hV5 => ?_
                  rw [← hV5] at hG5 hP5 d0 d1 d2 k0 k1 k2
                  clear hV5
                  go_region_held3 (fun w' => w'.cell? ⟨p1, 1, none⟩ = some (.int .i64 xf) ∧ w'.cell? ⟨p1, 2, none⟩ = some (.int .i64 xt) ∧ w'.cell? ⟨wr.heap.size, 1, none⟩ = some (.int .i64 yf) ∧ w'.cell? ⟨wr.heap.size, 2, none⟩ = some (.int .i64 yt)) (go_keep) (fail)
                  all_goals
                    go_wp2_with (first | (at_builtin; refine wpList_append_at _ rfl _ _ 58 rfl W.heap.size 108 m0 _ 5 40 Tryz.underlying58 hm hz0 hz1 hz2 rfl (by decide) _ _ _ rfl ((ownsRow_later hG5.own (Below.refl V5.heap.size V5).drew).alloc _) ⟨V5.heap.size, 0, none⟩ 1 1 [.int .i64 i, .int .i64 j, .int .i64 xs, .int .i64 xf, .int .i64 yt] rfl rfl cells5_lie one5 (by unfold maxLen; omega) (by omega) (by have h1 := hG5.below.size; simp only [World.size_alloc, World.size_drew]; omega) ?_))
                    intro v' w6 hown' hgrow hloc
                    have hB6 := Below.join (Below.refl V5.heap.size V5).drew (Nat.le_refl _) (b1 V5.drew (.cells #[.int .i64 i, .int .i64 j, .int .i64 xs, .int .i64 xf, .int .i64 yt] 108))
                    have hG6 := (hG5.later hB6).one (m := ⟨i, j, xs, xf, yt⟩) hown' hgrow
                    have hP6 := (hP5.later hB6).step hgrow (by simpa using hloc)
                    clear hown' hgrow
                    go_wp2
                    go_roundw
                    case rel => exact ⟨m + 1, by omega, by go_num, by rw [hst.out, eM.out]; exact hG6, hP6⟩
                    case measure => simp [intOf]; omega
                · have eM : Hid (MM = []) := by unfold Hid; rw [hem.out, e1, e2, if_neg (fun h => hle h.2)]
                  clear hem e1 e2
                  go_wp2
                  refine nameW fun V5 hV5 => ?_
                  rw [← hV5] at hG5 hP5 d0 d1 d2 k0 k1 k2
                  clear hV5
                  go_region_held3 (fun w' => w'.cell? ⟨p1, 1, none⟩ = some (.int .i64 xf) ∧ w'.cell? ⟨p1, 2, none⟩ = some (.int .i64 xt) ∧ w'.cell? ⟨wr.heap.size, 1, none⟩ = some (.int .i64 yf) ∧ w'.cell? ⟨wr.heap.size, 2, none⟩ = some (.int .i64 yt)) (go_keep) (fail)
                  all_goals
                    go_wp2
                    go_roundw
                    case rel => exact ⟨m + 1, by omega, by go_num, by rw [hst.out, eM.out, List.append_nil]; exact hG5.later (Below.refl V5.heap.size V5).drew, hP5.later (Below.refl V5.heap.size V5).drew⟩
                    case measure => simp [intOf]; omega
              · have e2 : minI xt yt = xt := if_neg ht
                by_cases hle : xf ≤ xt
                · have eM : Hid (MM = [⟨i, j, xs, xf, xt⟩]) := by unfold Hid; rw [hem.out, e1, e2, if_pos ⟨rfl, hle⟩]
                  clear hem e1 e2
                  go_wp2
                  refine nameW fun V5 hV5 => ?_
                  rw [← hV5] at hG5 hP5 d0 d1 d2 k0 k1 k2
                  clear hV5
                  go_region_held3 (fun w' => w'.cell? ⟨p1, 1, none⟩ = some (.int .i64 xf) ∧ w'.cell? ⟨p1, 2, none⟩ = some (.int .i64 xt) ∧ w'.cell? ⟨wr.heap.size, 1, none⟩ = some (.int .i64 yf) ∧ w'.cell? ⟨wr.heap.size, 2, none⟩ = some (.int .i64 yt)) (go_keep) (fail)
                  all_goals
                    go_wp2_with (first | (at_builtin; refine wpList_append_at _ rfl _ _ 58 rfl W.heap.size 108 m0 _ 5 40 Tryz.underlying58 hm hz0 hz1 hz2 rfl (by decide) _ _ _ rfl ((ownsRow_later hG5.own (Below.refl V5.heap.size V5).drew).alloc _) ⟨V5.heap.size, 0, none⟩ 1 1 [.int .i64 i, .int .i64 j, .int .i64 xs, .int .i64 xf, .int .i64 xt] rfl rfl cells5_lie one5 (by unfold maxLen; omega) (by omega) (by have h1 := hG5.below.size; simp only [World.size_alloc, World.size_drew]; omega) ?_))
                    intro v' w6 hown' hgrow hloc
                    have hB6 := Below.join (Below.refl V5.heap.size V5).drew (Nat.le_refl _) (b1 V5.drew (.cells #[.int .i64 i, .int .i64 j, .int .i64 xs, .int .i64 xf, .int .i64 xt] 108))
                    have hG6 := (hG5.later hB6).one (m := ⟨i, j, xs, xf, xt⟩) hown' hgrow
                    have hP6 := (hP5.later hB6).step hgrow (by simpa using hloc)
                    clear hown' hgrow
                    go_wp2
                    go_roundw
                    case rel => exact ⟨m + 1, by omega, by go_num, by rw [hst.out, eM.out]; exact hG6, hP6⟩
                    case measure => simp [intOf]; omega
                · have eM : Hid (MM = []) := by unfold Hid; rw [hem.out, e1, e2, if_neg (fun h => hle h.2)]
                  clear hem e1 e2
                  go_wp2
                  refine nameW fun V5 hV5 => ?_
                  rw [← hV5] at hG5 hP5 d0 d1 d2 k0 k1 k2
                  clear hV5
                  go_region_held3 (fun w' => w'.cell? ⟨p1, 1, none⟩ = some (.int .i64 xf) ∧ w'.cell? ⟨p1, 2, none⟩ = some (.int .i64 xt) ∧ w'.cell? ⟨wr.heap.size, 1, none⟩ = some (.int .i64 yf) ∧ w'.cell? ⟨wr.heap.size, 2, none⟩ = some (.int .i64 yt)) (go_keep) (fail)
                  all_goals
                    go_wp2
                    go_roundw
                    case rel => exact ⟨m + 1, by omega, by go_num, by rw [hst.out, eM.out, List.append_nil]; exact hG5.later (Below.refl V5.heap.size V5).drew, hP5.later (Below.refl V5.heap.size V5).drew⟩
                    case measure => simp [intOf]; omega
          · have eM : Hid (MM = []) := by unfold Hid; rw [hem.out, if_neg (fun h => hs h.1)]
            have hs' : (xs == ys) = false := by simpa using hs
            clear hem
            by_cases hf : xf < yf <;> by_cases ht : yt < xt
            all_goals
              go_wp2
              refine nameW fun V5 hV5 => ?_
              rw [← hV5] at hG5 hP5 d0 d1 d2 k0 k1 k2
              clear hV5
              go_region_held3 (fun w' => w'.cell? ⟨p1, 1, none⟩ = some (.int .i64 xf) ∧ w'.cell? ⟨p1, 2, none⟩ = some (.int .i64 xt) ∧ w'.cell? ⟨wr.heap.size, 1, none⟩ = some (.int .i64 yf) ∧ w'.cell? ⟨wr.heap.size, 2, none⟩ = some (.int .i64 yt)) (go_keep) (fail)
              all_goals
                go_wp2
                go_roundw
                case rel => exact ⟨m + 1, by omega, by go_num, by rw [hst.out, eM.out, List.append_nil]; exact hG5.later (Below.refl V5.heap.size V5).drew, hP5.later (Below.refl V5.heap.size V5).drew⟩
                case measure => simp [intOf]; omega
        · obtain rfl : m = (f j).nl + 1 := by omega
          go_wp2
          go_roundw
          case rel => exact ⟨k + 1, by omega, by go_num, by rw [← hpL.out] at hG4; simpa only [pairM] using hG4⟩
          case measure => simp [intOf]; omega
    · obtain rfl : k = (f i).nl + 1 := by omega
      go_wp2
      go_ret
      exact ⟨⟨_, rfl, Joins.ownsRow_le hG.own hBW.size⟩, Below.join hBW (Nat.le_refl _) hG.below⟩
end Go.Proofs.YtmmkggkneefhoabGreatDoor
