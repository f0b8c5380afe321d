/-
  When a train is where, by the program: a row of stands. Where two trains meet, by the program.
  The program's Meets, and the model's: what each answers.
  The laws' marks: they write into what they are handed and nowhere else; what is marked is held.
  Rows of meetings: the laws' own comparison, mark and look at the mark.
  The program's Arrives: what it answers.
  each over legs; how long the legs take; when a train is at its end.
  The model's Alone and Least: what they answer.
  The program's Alone and Least: what they answer.
  From the reading of an argument to its cells: a laws.Line by value.
  From the reading of an argument to its cells: bytes.
-/
import Derived.Test.YtelickcfodcmaaaGreatDoorGI
import Derived.Test.YtelickcfodcmaaaGreatDoorApp
import Derived.Test.YtelickcfodcmaaaGreatDoorImplS
import Derived.Test.YtelickcfodcmaaaGreatDoorGA
import Derived.Test.YtelickcfodcmaaaGreatDoorGH
import Derived.Test.YtelickcfodcmaaaGreatDoorGD
import Derived.Test.YtelickcfodcmaaaGreatDoorImplP
import Derived.Test.YtelickcfodcmaaaGreatDoorSum
import Derived.Test.YtelickcfodcmaaaGreatDoorImplL
import Derived.Test.YtelickcfodcmaaaGreatDoorImplK
import Derived.Test.YtelickcfodcmaaaGreatDoorRight
import Derived.Deep.RegionHeld3
import Derived.Test.YtelickcfodcmaaaGreatDoorSpecK
import Derived.Test.YtelickcfodcmaaaGreatDoorIsRight
import Derived.Test.YtelickcfodcmaaaGreatDoorBase
import Derived.Lib.SmallJoins
import Derived.Deep.Slices
namespace Go.Proofs.YtelickcfodcmaaaGreatDoor
open Go.RowKit

/-- since X only the row that v was, or is, has been written -/
structure Put (X wr : World) (row : Option Nat) (v : Value) : Prop where
  grown : X.grownBy wr row
  loc : v.ownBlock = row ∨ ∀ b, v.ownBlock = some b → X.heap.size ≤ b
theorem Put.refl (X : World) (v : Value) : Put X X v.ownBlock v := ⟨⟨rfl, rfl, rfl, Nat.le_refl _, fun _ _ _ => rfl⟩, Or.inl rfl⟩
theorem Put.cell {X wr : World} {row : Option Nat} {v : Value} (h : Put X wr row v) {b o : Nat} {u : Value} (hb : some b ≠ row) (hc : X.cell? ⟨b, o, none⟩ = some u) : wr.cell? ⟨b, o, none⟩ = some u :=
  (World.cell?_of_block (w := X) (w' := wr) (a := ⟨b, o, none⟩) (h.grown.block b (ltCell hc) hb)).trans hc
theorem grownBy_trans {A B C : World} {row : Option Nat} (h : A.grownBy B row) (k : B.grownBy C row) : A.grownBy C row :=
  ⟨k.os.trans h.os, k.tape.trans h.tape, k.output.trans h.output, Nat.le_trans h.size k.size, fun b hb hr => (k.block b (Nat.lt_of_lt_of_le hb h.size) hr).trans (h.block b hb hr)⟩
theorem Put.later {X wr w' : World} {row : Option Nat} {v : Value} (h : Put X wr row v) (hB : Below wr.heap.size wr w') : Put X w' row v :=
  ⟨grownBy_trans h.grown ⟨hB.os, hB.tape, hB.output, hB.size, fun b hb _ => hB.block b hb⟩, h.loc⟩
theorem Put.step {X wr w' : World} {row : Option Nat} {v v' : Value} (h : Put X wr row v) (hg : wr.grownBy w' v.ownBlock) (hl : v'.ownBlock = v.ownBlock ∨ v'.ownBlock = some wr.heap.size) : Put X w' row v' := by
  refine ⟨⟨hg.os.trans h.grown.os, hg.tape.trans h.grown.tape, hg.output.trans h.grown.output, Nat.le_trans h.grown.size hg.size, fun b hb hr => ?_⟩, ?_⟩
  · refine (hg.block b (Nat.lt_of_lt_of_le hb h.grown.size) ?_).trans (h.grown.block b hb hr)
    intro e
    rcases h.loc with h' | h'
    · exact hr (e.trans h')
    · have := h' b e.symm; omega
  · rcases hl with e | e
    · rcases h.loc with h' | h'
      · exact Or.inl (e.trans h')
      · exact Or.inr (fun b hb => h' b (e.symm.trans hb))
    · refine Or.inr (fun b hb => ?_)
      rw [e] at hb
      cases hb
      exact h.grown.size

theorem wpList_append_at {P : Program} (w : World) {ops : Array Oper} {rest : List Oper} {o : Oper} {a : Act} {Q : Exit → Act → World → Prop} (hgd : o.guard = none) (s x : Operand) (t : TypeId)
    (ho : o.op = .call { callee := .builtin .append, args := #[s, x], argTypes := #[t, t] })
    (base : Nat) (e : TypeId) (i : TypeInfo) (z : Value) (size bytes : Nat) (ht : P.underlying t = some (.slice e)) (hi : P.info? e = some i) (hz : i.zero = some z)
    (hsize : i.size = size) (hby : i.bytes = bytes) (hzs : z.cells.size = size) (hsz : 0 < size)
    (v : Value) (n : Nat) (xs : List Value) (hs : a.eval s = v) (hown : w.ownsRow base e size v n xs)
    (ad : Addr) (m c : Nat) (news : List Value) (hx : a.eval x = .slice (some ad) m c) (hl : news.length = m * size) (hnews : ∀ j u, news[j]? = some u → w.cell? (ad.add j) = some u) (h1 : ∀ u ∈ news, u.oneCell' = true)
    (hbound : n + m ≤ maxLen) (hbytes : (n + m) * bytes ≤ 140737488355328) (hbase : base ≤ w.heap.size)
    (h : ∀ v' w', w'.ownsRow base e size v' (n + m) (xs ++ news) → w.grownBy w' v.ownBlock → (v'.ownBlock = v.ownBlock ∨ v'.ownBlock = some w.heap.size) → wpList P ops Q rest (a.put o.dst v') w') : wpList P ops Q (o :: rest) a w := by
  refine wpList_plain hgd fun K hK => ?_
  obtain ⟨v', w', hrun, r1, r2, _, r4⟩ := run_append_own_at (P := P) w base t o.type e i z size bytes ht hi hz hsize hby hzs hsz v n xs hown ad m c news hl hnews h1 hbound hbytes hbase
  unfold Oper.wp
  simp [execOp, ho, resolve, invoke, builtin, hs, hx, hrun, Result.andThen]
  exact hK _ _ (h v' w' r1 r2 r4)

theorem new3c (w : World) (x y z : Value) (t : TypeId) : (w.alloc (.cells #[x, y, z] t)).cell? ⟨w.heap.size, 0, none⟩ = some x ∧ (w.alloc (.cells #[x, y, z] t)).cell? ⟨w.heap.size, 1, none⟩ = some y ∧ (w.alloc (.cells #[x, y, z] t)).cell? ⟨w.heap.size, 2, none⟩ = some z := new3 w x y z t

set_option maxRecDepth 20000 in
set_option maxHeartbeats 16000000 in
theorem meetsOfI_any (a : Option Addr) (len cap : Nat) (gap : Int) (a' : Option Addr) (np cap' : Nat) (f : Nat → TrainD) (c : Option Addr) (nc : Nat) (P : Nat → RowD) (i j : Nat) (w : World)
    (hR : RightL len np f) (hQ : RightP np f np P) (hi : i < np) (hj : j < np) (hT : IsTrains 0 w.heap.size w a' np f) (hP : IsRows 0 w.heap.size w c np P) (hC : Caps w c np) :
    Calls Tryz.prog 44 #[.agg #[.slice a len cap, .int .i64 gap, .slice a' np cap'], .agg #[.slice c np nc], .int .i64 i, .int .i64 j] w fun e w' => (∃ v, e = .returned v ∧ w'.ownsRow w.heap.size 44 5 v (pairM f P i j ((f i).nl + 1)).length (meetCells (pairM f P i j ((f i).nl + 1)))) ∧ Below w.heap.size w w' := by
  obtain ⟨y0, y1, y2, u0⟩ := box2 w a len cap gap a' np cap' c np nc 26 30
  have hN := b2 w (.cells #[.slice a len cap, .int .i64 gap, .slice a' np cap'] 26) (.cells #[.slice c np nc] 30)
  obtain ⟨m0, hm, hz0, hz1, hz2⟩ := info_parts Tryz.infoMeet
  have htr := hR.tr
  have hRi := hR.train i hi
  have hRj := hR.train j hj
  have hnli := hRi.nl
  have hnlj := hRj.nl
  have hpi := hR.pos i hi
  have hpj := hR.pos j hj
  have hi' : (i : Int) < (np : Int) := by omega
  have hj' : (j : Int) < (np : Int) := by omega
  have hi0 : (0 : Int) ≤ (i : Int) := by omega
  have hj0 : (0 : Int) ≤ (j : Int) := by omega
  obtain ⟨b, off, la, lc, rfl, _, hb, t0, t1, t2, t3, t4, hlg, _⟩ := hT i hi
  obtain ⟨b', off', la', lc', ea, _, hb', t0', t1', t2', t3', t4', hlg', _⟩ := hT j hj
  simp only [Option.some.injEq, Addr.mk.injEq] at ea
  obtain ⟨rfl, rfl, _⟩ := ea
  obtain ⟨bp, op, lp, lpc, rfl, _, hbp, p0, hin, _⟩ := hP i hi
  obtain ⟨bp', op', lp', lpc', ep, _, hbp', p0', hin', _⟩ := hP j hj
  simp only [Option.some.injEq, Addr.mk.injEq] at ep
  obtain ⟨rfl, rfl, _⟩ := ep
  have hcap := hC.at hi p0
  have hcap' := hC.at hj p0'
  rw [hQ.row i hi] at p0 hin hcap
  rw [hQ.row j hj] at p0' hin' hcap'
  have hsi := fun k hk => hQ.at0 i hi k hk
  have hsj := fun k hk => hQ.at0 j hj k hk
  go_enter Tryz.func44, Tryz.ntmps44
  go_wp2
  refine nameW fun V0 hV0 => ?_
  rw [← hV0] at hN y0 y1 y2 u0
  have s0 := cellLater hN t0
  have s1 := cellLater hN t1
  have s2 := cellLater hN t2
  have s3 := cellLater hN t3
  have s4 := cellLater hN t4
  have r0 := cellLater hN p0
  have hSt := stands_any (f i) (P i) la lc lp lpc V0.drew hRi hpi hsi hcap (hlg.grow hN.drew) (hin.grow hN.drew)
  clear hV0
  go_region_held3 (fun w' => w'.cell? ⟨w.heap.size, 2, none⟩ = some (.slice (some ⟨b, off, none⟩) np cap') ∧ w'.cell? ⟨b, off + i * 5, none⟩ = some (.int .i64 (f i).frm) ∧ w'.cell? ⟨b, off + i * 5 + 1, none⟩ = some (.int .i64 (f i).ready) ∧ w'.cell? ⟨b, off + i * 5 + 2, none⟩ = some (.int .i64 (f i).due) ∧ w'.cell? ⟨b, off + i * 5 + 3, none⟩ = some (.int .i64 (f i).weight) ∧ w'.cell? ⟨b, off + i * 5 + 4, none⟩ = some (.slice la (f i).nl lc) ∧ w'.cell? ⟨w.heap.size + 1, 0, none⟩ = some (.slice (some ⟨bp, op, none⟩) np nc) ∧ w'.cell? ⟨bp, op + i, none⟩ = some (.slice lp (f i).nl lpc)) (first | go_keep | (go_split_ands; refine ⟨?_, ?_, ?_, ?_, ?_, ?_, ?_, ?_⟩ <;> exact cellLater hB1 (by assumption))) ((first | (go_at_call 73; refine hSt.mono ?_; rintro _ W ⟨⟨_, rfl, hO1⟩, hB1⟩; obtain ⟨g1, cp1, rfl⟩ := Joins.ownsRow_form hO1 (by omega))))
  have hBW := Below.join hN.drew (Nat.le_refl _) hB1
  have x2 := cellLater (Below.join (Below.refl V0.heap.size V0).drew (Nat.le_refl _) hB1) y2
  have x3 := cellLater (Below.join (Below.refl V0.heap.size V0).drew (Nat.le_refl _) hB1) u0
  have hg1 : g1 < W.heap.size := (hO1.lt g1 rfl).2
  have hStand := fun k hk => stand_cells hO1 (k := k) hk
  have lw2 := ltCell x2
  have lw3 := ltCell x3
  dsimp only at lw2 lw3
  clear hSt s0 s1 s2 s3 s4 r0 y0 y1 y2 u0 hN hB1 hO1
  go_wp2
  go_loopw [9, 28] (fun v kk wr => ∃ (k : Nat), k ≤ (f i).nl + 1 ∧ kk = .int .i64 k ∧ Got W wr v (pairM f P i j k)) (fun _ kk _ => (f i).nl + 1 - (intOf kk).toNat)
  case atStart => exact ⟨0, Nat.zero_le _, rfl, World.ownsRow_nil _ _ _ _, Below.refl _ _⟩
  case round =>
    obtain ⟨k, hkn, rfl, hG⟩ := hrel
    by_cases hklt : k < (f i).nl + 1
    · have hk' : (k : Int) < ((f i).nl : Int) + 1 := by omega
      have hk0 : (0 : Int) ≤ (k : Int) := by omega
      obtain ⟨c0, c1, c2⟩ := hStand k hklt
      replace c0 := cellLater hG.below c0
      replace c1 := cellLater hG.below c1
      replace c2 := cellLater hG.below c2
      have hpl := pairM_len P (i := i) (j := j) hnlj k
      have hA1 := b1 wr (.cells #[.int .i64 (cur (f i) k), .int .i64 (fromOf (f i) (P i) k), .int .i64 (toOf (f i) (P i) k)] 122)
      obtain ⟨n0, n1, n2⟩ := new3 wr (.int .i64 (cur (f i) k)) (.int .i64 (fromOf (f i) (P i) k)) (.int .i64 (toOf (f i) (P i) k)) 122
      have hBX := Below.join (Below.join hBW (Nat.le_refl _) hG.below) (Nat.le_refl _) hA1
      have z2 := cellLater hA1 (cellLater hG.below x2)
      have z3 := cellLater hA1 (cellLater hG.below x3)
      have lwr : W.heap.size ≤ wr.heap.size := hG.below.size
      go_wp2
      refine nameW fun V1 hV1 => ?_
      rw [← hV1] at hA1 n0 n1 n2 hBX z2 z3
      have s0 := cellLater hBX t0'
      have s1 := cellLater hBX t1'
      have s2 := cellLater hBX t2'
      have s3 := cellLater hBX t3'
      have s4 := cellLater hBX t4'
      have r0 := cellLater hBX p0'
      have hSt := stands_any (f j) (P j) la' lc' lp' lpc' V1.drew hRj hpj hsj hcap' (hlg'.grow hBX.drew) (hin'.grow hBX.drew)
      have hvs : V1.heap.size = wr.heap.size + 1 := by rw [hV1]; simp
      clear hV1 c0 c1 c2
      go_region_held3 (fun w' => w'.cell? ⟨w.heap.size, 2, none⟩ = some (.slice (some ⟨b, off, none⟩) np cap') ∧ w'.cell? ⟨b, off + j * 5, none⟩ = some (.int .i64 (f j).frm) ∧ w'.cell? ⟨b, off + j * 5 + 1, none⟩ = some (.int .i64 (f j).ready) ∧ w'.cell? ⟨b, off + j * 5 + 2, none⟩ = some (.int .i64 (f j).due) ∧ w'.cell? ⟨b, off + j * 5 + 3, none⟩ = some (.int .i64 (f j).weight) ∧ w'.cell? ⟨b, off + j * 5 + 4, none⟩ = some (.slice la' (f j).nl lc') ∧ w'.cell? ⟨w.heap.size + 1, 0, none⟩ = some (.slice (some ⟨bp, op, none⟩) np nc) ∧ w'.cell? ⟨bp, op + j, none⟩ = some (.slice lp' (f j).nl lpc')) (first | go_keep | (go_split_ands; refine ⟨?_, ?_, ?_, ?_, ?_, ?_, ?_, ?_⟩ <;> exact cellLater hB1 (by assumption))) ((first | (go_at_call 73; refine hSt.mono ?_; rintro _ X ⟨⟨_, rfl, hO2⟩, hB1⟩; obtain ⟨g2, cp2, rfl⟩ := Joins.ownsRow_form hO2 (by omega))))
      have hV1X := Below.join (Below.refl V1.heap.size V1).drew (Nat.le_refl _) hB1
      have n0' := cellLater hV1X n0
      have n1' := cellLater hV1X n1
      have n2' := cellLater hV1X n2
      have hGX := hG.later (Below.join hA1 (Nat.le_refl _) hV1X)
      have hg2 : wr.heap.size + 1 ≤ g2 := by have := (hO2.lt g2 rfl).1; simp at this; omega
      have hStand2 := fun m hm => stand_cells hO2 (k := m) hm
      have hrow : ∀ bb, Value.ownBlock _ = some bb → bb < wr.heap.size := fun bb hbb => (hG.own.lt bb hbb).2
      have hPX := Put.refl X u9
      obtain ⟨row, hrw⟩ : ∃ row, row = u9.ownBlock := ⟨_, rfl⟩
      rw [← hrw] at hrow hPX
      clear hrw
      generalize hpL' : pairM f P i j k = L at hG hGX hpl
      have hpL : Hid _ := hpL'
      clear hpL'
      clear hSt s0 s1 s2 s3 s4 r0 n0 n1 n2 hA1 hO2 hB1 hV1X hBX z2 z3
      go_wp2
      have hp1 : X.heap.size ≥ wr.heap.size + 1 := ltCell n0'
      clear hG
      generalize wr.heap.size = p1 at n0' n1' n2' hg2 hrow hp1 lwr hvs ⊢
      go_loopw [9, 44] (fun v mm wr4 => ∃ (m : Nat), m ≤ (f j).nl + 1 ∧ mm = .int .i64 m ∧ Got W wr4 v (L ++ rowM f P i j k m) ∧ Put X wr4 row v) (fun _ mm _ => (f j).nl + 1 - (intOf mm).toNat)
      case atStart => exact ⟨0, Nat.zero_le _, rfl, by simpa [rowM] using hGX, hPX⟩
      case round =>
        obtain ⟨m, hmn, rfl, hG4, hP4⟩ := hrel
        by_cases hmlt : m < (f j).nl + 1
        · have hm' : (m : Int) < ((f j).nl : Int) + 1 := by omega
          have hmm0 : (0 : Int) ≤ (m : Int) := by omega
          have hrow4 := rowM_len f P i j k m
          have hL4 : (L ++ rowM f P i j k m).length ≤ 200 := by rw [List.length_append]; omega
          have hstep : L ++ rowM f P i j k (m + 1) = (L ++ rowM f P i j k m) ++ meetOf i j (standOf (f i) (P i) k) (standOf (f j) (P j) m) := by rw [List.append_assoc]; rfl
          have hst : Hid _ := hstep
          clear hstep
          generalize L ++ rowM f P i j k m = L4 at hG4 hL4 hst
          have em : meetOf i j (standOf (f i) (P i) k) (standOf (f j) (P j) m) = if cur (f i) k = cur (f j) m ∧ maxI (fromOf (f i) (P i) k) (fromOf (f j) (P j) m) ≤ minI (toOf (f i) (P i) k) (toOf (f j) (P j) m) then [⟨i, j, cur (f i) k, maxI (fromOf (f i) (P i) k) (fromOf (f j) (P j) m), minI (toOf (f i) (P i) k) (toOf (f j) (P j) m)⟩] else [] := rfl
          have hem : Hid _ := em
          clear em
          generalize meetOf i j (standOf (f i) (P i) k) (standOf (f j) (P j) m) = MM at hst hem
          obtain ⟨q0, q1, q2⟩ := hStand2 m hmlt
          have hne1 : some p1 ≠ row := fun e => by have := hrow p1 e.symm; omega
          have hne2 : some g2 ≠ row := fun e => by have := hrow g2 e.symm; omega
          replace q0 := hP4.cell hne2 q0
          replace q1 := hP4.cell hne2 q1
          replace q2 := hP4.cell hne2 q2
          have d0 := hP4.cell hne1 n0'
          have d1 := hP4.cell hne1 n1'
          have d2 := hP4.cell hne1 n2'
          generalize cur (f i) k = xs at d0 hem
          generalize fromOf (f i) (P i) k = xf at d1 hem
          generalize toOf (f i) (P i) k = xt at d2 hem
          generalize cur (f j) m = ys at q0 hem
          generalize fromOf (f j) (P j) m = yf at q1 hem
          generalize toOf (f j) (P j) m = yt at q2 hem
          have hA5 := b1 wr (.cells #[.int .i64 ys, .int .i64 yf, .int .i64 yt] 122)
          obtain ⟨k0, k1, k2⟩ := new3 wr (.int .i64 ys) (.int .i64 yf) (.int .i64 yt) 122
          have hG5 := hG4.later hA5
          have hP5 := hP4.later hA5
          have lp1 := ltCell d0
          dsimp only at lp1
          replace d0 := cellLater hA5 d0
          replace d1 := cellLater hA5 d1
          replace d2 := cellLater hA5 d2
          clear hA5 hG4 hP4 hStand2 n0' n1' n2' hGX hPX
          by_cases hs : xs = ys
          · subst hs
            by_cases hf : xf < yf
            · have e1 : maxI xf yf = yf := if_pos hf
              by_cases ht : yt < xt
              · have e2 : minI xt yt = yt := if_pos ht
                by_cases hle : yf ≤ yt
                · have eM : Hid (MM = [⟨i, j, xs, yf, yt⟩]) := by unfold Hid; rw [hem.out, e1, e2, if_pos ⟨rfl, hle⟩]
                  clear hem e1 e2
                  go_wp2
                  refine nameW fun V5 hV5 => ?_
                  rw [← hV5] at hG5 hP5 d0 d1 d2 k0 k1 k2
                  clear hV5
                  go_region_held3 (fun w' => w'.cell? ⟨p1, 1, none⟩ = some (.int .i64 xf) ∧ w'.cell? ⟨p1, 2, none⟩ = some (.int .i64 xt) ∧ w'.cell? ⟨wr.heap.size, 1, none⟩ = some (.int .i64 yf) ∧ w'.cell? ⟨wr.heap.size, 2, none⟩ = some (.int .i64 yt)) (go_keep) (fail)
                  all_goals
                    go_wp2_with (first | (at_builtin; refine wpList_append_at _ rfl _ _ 41 rfl W.heap.size 44 m0 _ 5 40 Tryz.underlying41 hm hz0 hz1 hz2 rfl (by decide) _ _ _ rfl ((ownsRow_later hG5.own (Below.refl V5.heap.size V5).drew).alloc _) ⟨V5.heap.size, 0, none⟩ 1 1 [.int .i64 i, .int .i64 j, .int .i64 xs, .int .i64 yf, .int .i64 yt] rfl rfl cells5_lie one5 (by unfold maxLen; omega) (by omega) (by have h1 := hG5.below.size; simp only [World.size_alloc, World.size_drew]; omega) ?_))
                    intro v' w6 hown' hgrow hloc
                    have hB6 := Below.join (Below.refl V5.heap.size V5).drew (Nat.le_refl _) (b1 V5.drew (.cells #[.int .i64 i, .int .i64 j, .int .i64 xs, .int .i64 yf, .int .i64 yt] 44))
                    have hG6 := (hG5.later hB6).one (m := ⟨i, j, xs, yf, yt⟩) hown' hgrow
                    have hP6 := (hP5.later hB6).step hgrow (by simpa using hloc)
                    clear hown' hgrow
                    go_wp2
                    go_roundw
                    case rel => exact ⟨m + 1, by omega, by go_num, by rw [hst.out, eM.out]; exact hG6, hP6⟩
                    case measure => simp [intOf]; omega
                · have eM : Hid (MM = []) := by unfold Hid; rw [hem.out, e1, e2, if_neg (fun h => hle h.2)]
                  clear hem e1 e2
                  go_wp2
                  refine nameW fun V5 hV5 => ?_
                  rw [← hV5] at hG5 hP5 d0 d1 d2 k0 k1 k2
                  clear hV5
                  go_region_held3 (fun w' => w'.cell? ⟨p1, 1, none⟩ = some (.int .i64 xf) ∧ w'.cell? ⟨p1, 2, none⟩ = some (.int .i64 xt) ∧ w'.cell? ⟨wr.heap.size, 1, none⟩ = some (.int .i64 yf) ∧ w'.cell? ⟨wr.heap.size, 2, none⟩ = some (.int .i64 yt)) (go_keep) (fail)
                  all_goals
                    go_wp2
                    go_roundw
                    case rel => exact ⟨m + 1, by omega, by go_num, by rw [hst.out, eM.out, List.append_nil]; exact hG5.later (Below.refl V5.heap.size V5).drew, hP5.later (Below.refl V5.heap.size V5).drew⟩
                    case measure => simp [intOf]; omega
              · have e2 : minI xt yt = xt := if_neg ht
                by_cases hle : yf ≤ xt
                · have eM : Hid (MM = [⟨i, j, xs, yf, xt⟩]) := by unfold Hid; rw [hem.out, e1, e2, if_pos ⟨rfl, hle⟩]
                  clear hem e1 e2
                  go_wp2
                  refine nameW fun V5 hV5 => ?_
                  rw [← hV5] at hG5 hP5 d0 d1 d2 k0 k1 k2
                  clear hV5
                  go_region_held3 (fun w' => w'.cell? ⟨p1, 1, none⟩ = some (.int .i64 xf) ∧ w'.cell? ⟨p1, 2, none⟩ = some (.int .i64 xt) ∧ w'.cell? ⟨wr.heap.size, 1, none⟩ = some (.int .i64 yf) ∧ w'.cell? ⟨wr.heap.size, 2, none⟩ = some (.int .i64 yt)) (go_keep) (fail)
                  all_goals
                    go_wp2_with (first | (at_builtin; refine wpList_append_at _ rfl _ _ 41 rfl W.heap.size 44 m0 _ 5 40 Tryz.underlying41 hm hz0 hz1 hz2 rfl (by decide) _ _ _ rfl ((ownsRow_later hG5.own (Below.refl V5.heap.size V5).drew).alloc _) ⟨V5.heap.size, 0, none⟩ 1 1 [.int .i64 i, .int .i64 j, .int .i64 xs, .int .i64 yf, .int .i64 xt] rfl rfl cells5_lie one5 (by unfold maxLen; omega) (by omega) (by have h1 := hG5.below.size; simp only [World.size_alloc, World.size_drew]; omega) ?_))
                    intro v' w6 hown' hgrow hloc
                    have hB6 := Below.join (Below.refl V5.heap.size V5).drew (Nat.le_refl _) (b1 V5.drew (.cells #[.int .i64 i, .int .i64 j, .int .i64 xs, .int .i64 yf, .int .i64 xt] 44))
                    have hG6 := (hG5.later hB6).one (m := ⟨i, j, xs, yf, xt⟩) hown' hgrow
                    have hP6 := (hP5.later hB6).step hgrow (by simpa using hloc)
                    clear hown' hgrow
                    go_wp2
                    go_roundw
                    case rel => exact ⟨m + 1, by omega, by go_num, by rw [hst.out, eM.out]; exact hG6, hP6⟩
                    case measure => simp [intOf]; omega
                · have eM : Hid (MM = []) := by unfold Hid; rw [hem.out, e1, e2, if_neg (fun h => hle h.2)]
                  clear hem e1 e2
                  go_wp2
                  refine nameW fun V5 hV5 => ?_
                  rw [← hV5] at hG5 hP5 d0 d1 d2 k0 k1 k2
                  clear hV5
                  go_region_held3 (fun w' => w'.cell? ⟨p1, 1, none⟩ = some (.int .i64 xf) ∧ w'.cell? ⟨p1, 2, none⟩ = some (.int .i64 xt) ∧ w'.cell? ⟨wr.heap.size, 1, none⟩ = some (.int .i64 yf) ∧ w'.cell? ⟨wr.heap.size, 2, none⟩ = some (.int .i64 yt)) (go_keep) (fail)
                  all_goals
                    go_wp2
                    go_roundw
                    case rel => exact ⟨m + 1, by omega, by go_num, by rw [hst.out, eM.out, List.append_nil]; exact hG5.later (Below.refl V5.heap.size V5).drew, hP5.later (Below.refl V5.heap.size V5).drew⟩
                    case measure => simp [intOf]; omega
            · have e1 : maxI xf yf = xf := if_neg hf
              by_cases ht : yt < xt
              · have e2 : minI xt yt = yt := if_pos ht
                by_cases hle : xf ≤ yt
                · have eM : Hid (MM = [⟨i, j, xs, xf, yt⟩]) := by unfold Hid; rw [hem.out, e1, e2, if_pos ⟨rfl, hle⟩]
                  clear hem e1 e2
                  go_wp2
                  refine nameW fun V5 hV5 => ?_
                  rw [← hV5] at hG5 hP5 d0 d1 d2 k0 k1 k2
                  clear hV5
                  go_region_held3 (fun w' => w'.cell? ⟨p1, 1, none⟩ = some (.int .i64 xf) ∧ w'.cell? ⟨p1, 2, none⟩ = some (.int .i64 xt) ∧ w'.cell? ⟨wr.heap.size, 1, none⟩ = some (.int .i64 yf) ∧ w'.cell? ⟨wr.heap.size, 2, none⟩ = some (.int .i64 yt)) (go_keep) (fail)
                  all_goals
                    go_wp2_with (first | (at_builtin; refine wpList_append_at _ rfl _ _ 41 rfl W.heap.size 44 m0 _ 5 40 Tryz.underlying41 hm hz0 hz1 hz2 rfl (by decide) _ _ _ rfl ((ownsRow_later hG5.own (Below.refl V5.heap.size V5).drew).alloc _) ⟨V5.heap.size, 0, none⟩ 1 1 [.int .i64 i, .int .i64 j, .int .i64 xs, .int .i64 xf, .int .i64 yt] rfl rfl cells5_lie one5 (by unfold maxLen; omega) (by omega) (by have h1 := hG5.below.size; simp only [World.size_alloc, World.size_drew]; omega) ?_))
                    intro v' w6 hown' hgrow hloc
                    have hB6 := Below.join (Below.refl V5.heap.size V5).drew (Nat.le_refl _) (b1 V5.drew (.cells #[.int .i64 i, .int .i64 j, .int .i64 xs, .int .i64 xf, .int .i64 yt] 44))
                    have hG6 := (hG5.later hB6).one (m := ⟨i, j, xs, xf, yt⟩) hown' hgrow
                    have hP6 := (hP5.later hB6).step hgrow (by simpa using hloc)
                    clear hown' hgrow
                    go_wp2
                    go_roundw
                    case rel => exact ⟨m + 1, by omega, by go_num, by rw [hst.out, eM.out]; exact hG6, hP6⟩
                    case measure => simp [intOf]; omega
                · have eM : Hid (MM = []) := by unfold Hid; rw [hem.out, e1, e2, if_neg (fun h => hle h.2)]
                  clear hem e1 e2
                  go_wp2
                  refine nameW fun V5 hV5 => ?_
                  rw [← hV5] at hG5 hP5 d0 d1 d2 k0 k1 k2
                  clear hV5
                  go_region_held3 (fun w' => w'.cell? ⟨p1, 1, none⟩ = some (.int .i64 xf) ∧ w'.cell? ⟨p1, 2, none⟩ = some (.int .i64 xt) ∧ w'.cell? ⟨wr.heap.size, 1, none⟩ = some (.int .i64 yf) ∧ w'.cell? ⟨wr.heap.size, 2, none⟩ = some (.int .i64 yt)) (go_keep) (fail)
                  all_goals
                    go_wp2
                    go_roundw
                    case rel => exact ⟨m + 1, by omega, by go_num, by rw [hst.out, eM.out, List.append_nil]; exact hG5.later (Below.refl V5.heap.size V5).drew, hP5.later (Below.refl V5.heap.size V5).drew⟩
                    case measure => simp [intOf]; omega
              · have e2 : minI xt yt = xt := if_neg ht
                by_cases hle : xf ≤ xt
                · have eM : Hid (MM = [⟨i, j, xs, xf, xt⟩]) := by unfold Hid; rw [hem.out, e1, e2, if_pos ⟨rfl, hle⟩]
                  clear hem e1 e2
                  go_wp2
                  refine nameW fun V5 hV5 => ?_
                  rw [← hV5] at hG5 hP5 d0 d1 d2 k0 k1 k2
                  clear hV5
                  go_region_held3 (fun w' => w'.cell? ⟨p1, 1, none⟩ = some (.int .i64 xf) ∧ w'.cell? ⟨p1, 2, none⟩ = some (.int .i64 xt) ∧ w'.cell? ⟨wr.heap.size, 1, none⟩ = some (.int .i64 yf) ∧ w'.cell? ⟨wr.heap.size, 2, none⟩ = some (.int .i64 yt)) (go_keep) (fail)
                  all_goals
                    go_wp2_with (first | (at_builtin; refine wpList_append_at _ rfl _ _ 41 rfl W.heap.size 44 m0 _ 5 40 Tryz.underlying41 hm hz0 hz1 hz2 rfl (by decide) _ _ _ rfl ((ownsRow_later hG5.own (Below.refl V5.heap.size V5).drew).alloc _) ⟨V5.heap.size, 0, none⟩ 1 1 [.int .i64 i, .int .i64 j, .int .i64 xs, .int .i64 xf, .int .i64 xt] rfl rfl cells5_lie one5 (by unfold maxLen; omega) (by omega) (by have h1 := hG5.below.size; simp only [World.size_alloc, World.size_drew]; omega) ?_))
                    intro v' w6 hown' hgrow hloc
                    have hB6 := Below.join (Below.refl V5.heap.size V5).drew (Nat.le_refl _) (b1 V5.drew (.cells #[.int .i64 i, .int .i64 j, .int .i64 xs, .int .i64 xf, .int .i64 xt] 44))
                    have hG6 := (hG5.later hB6).one (m := ⟨i, j, xs, xf, xt⟩) hown' hgrow
                    have hP6 := (hP5.later hB6).step hgrow (by simpa using hloc)
                    clear hown' hgrow
                    go_wp2
                    go_roundw
                    case rel => exact ⟨m + 1, by omega, by go_num, by rw [hst.out, eM.out]; exact hG6, hP6⟩
                    case measure => simp [intOf]; omega
                · have eM : Hid (MM = []) := by unfold Hid; rw [hem.out, e1, e2, if_neg (fun h => hle h.2)]
                  clear hem e1 e2
                  go_wp2
                  refine nameW fun V5 hV5 => ?_
                  rw [← hV5] at hG5 hP5 d0 d1 d2 k0 k1 k2
                  clear hV5
                  go_region_held3 (fun w' => w'.cell? ⟨p1, 1, none⟩ = some (.int .i64 xf) ∧ w'.cell? ⟨p1, 2, none⟩ = some (.int .i64 xt) ∧ w'.cell? ⟨wr.heap.size, 1, none⟩ = some (.int .i64 yf) ∧ w'.cell? ⟨wr.heap.size, 2, none⟩ = some (.int .i64 yt)) (go_keep) (fail)
                  all_goals
                    go_wp2
                    go_roundw
                    case rel => exact ⟨m + 1, by omega, by go_num, by rw [hst.out, eM.out, List.append_nil]; exact hG5.later (Below.refl V5.heap.size V5).drew, hP5.later (Below.refl V5.heap.size V5).drew⟩
                    case measure => simp [intOf]; omega
          · have eM : Hid (MM = []) := by unfold Hid; rw [hem.out, if_neg (fun h => hs h.1)]
            have hs' : (xs == ys) = false := by simpa using hs
            clear hem
            by_cases hf : xf < yf <;> by_cases ht : yt < xt
            all_goals
              go_wp2
              refine nameW fun V5 hV5 => ?_
              rw [← hV5] at hG5 hP5 d0 d1 d2 k0 k1 k2
              clear hV5
              go_region_held3 (fun w' => w'.cell? ⟨p1, 1, none⟩ = some (.int .i64 xf) ∧ w'.cell? ⟨p1, 2, none⟩ = some (.int .i64 xt) ∧ w'.cell? ⟨wr.heap.size, 1, none⟩ = some (.int .i64 yf) ∧ w'.cell? ⟨wr.heap.size, 2, none⟩ = some (.int .i64 yt)) (go_keep) (fail)
              all_goals
                go_wp2
                go_roundw
                case rel => exact ⟨m + 1, by omega, by go_num, by rw [hst.out, eM.out, List.append_nil]; exact hG5.later (Below.refl V5.heap.size V5).drew, hP5.later (Below.refl V5.heap.size V5).drew⟩
                case measure => simp [intOf]; omega
        · obtain rfl : m = (f j).nl + 1 := by omega
          go_wp2
          go_roundw
          case rel => exact ⟨k + 1, by omega, by go_num, by rw [← hpL.out] at hG4; simpa only [pairM] using hG4⟩
          case measure => simp [intOf]; omega
    · obtain rfl : k = (f i).nl + 1 := by omega
      go_wp2
      go_ret
      exact ⟨⟨_, rfl, Joins.ownsRow_le hG.own hBW.size⟩, Below.join hBW (Nat.le_refl _) hG.below⟩
end Go.Proofs.YtelickcfodcmaaaGreatDoor

namespace Go.Proofs.YtelickcfodcmaaaGreatDoor
open Go.RowKit

theorem specMeets_any (a : Option Addr) (len cap : Nat) (g : Nat → Int) (gap : Int) (a' : Option Addr) (len' cap' : Nat) (f : Nat → TrainD) (c : Option Addr) (np nc : Nat) (P : Nat → RowD) (w : World) (hl : len ≤ 1048576) (hl' : len' ≤ 1048576) (hml : ∀ j, j < len' → (f j).nl ≤ 1048576) (hp : np ≤ 1048576) (hmp : ∀ j, j < np → (P j).n ≤ 1048576)
    (hI : IsInts 0 w.heap.size w a len g) (hT : IsTrains 0 w.heap.size w a' len' f) (hP : IsRows 0 w.heap.size w c np P) :
    Calls Tryz.prog 13 #[.agg #[.slice a len cap, .int .i64 gap, .slice a' len' cap'], .agg #[.slice c np nc]] w fun e w' => (∃ v, e = .returned v ∧ w'.ownsRow w.heap.size 44 5 v (meetsOf len g gap len' f np P).length (meetCells (meetsOf len g gap len' f np P))) ∧ Below w.heap.size w w' := by
  have hN := b2 w (.cells #[.slice a len cap, .int .i64 gap, .slice a' len' cap'] 26) (.cells #[.slice c np nc] 30)
  exact specMeets_from a len cap g gap a' len' cap' f c np nc P w hT hP (specCheck_any a len cap g gap a' len' cap' f c np nc P _ hl hl' hml hp hmp (hI.grow hN) (hT.grow hN) (hP.grow hN))

theorem Got.row {W wr w' : World} {v v' : Value} {L M : List MeetD} (h : Got W wr v L) (ho : w'.ownsRow W.heap.size 44 5 v' (L.length + M.length) (meetCells L ++ meetCells M)) (hg : wr.grownBy w' v.ownBlock) : Got W w' v' (L ++ M) :=
  ⟨by rw [meetCells_app, List.length_append]; exact ho, h.below.grown hg h.below.size (fun k hk => (h.own.lt k hk).1)⟩

set_option maxRecDepth 20000 in
set_option maxHeartbeats 8000000 in
theorem implMeets_any (a : Option Addr) (len cap : Nat) (g : Nat → Int) (gap : Int) (a' : Option Addr) (len' cap' : Nat) (f : Nat → TrainD) (c : Option Addr) (np nc : Nat) (P : Nat → RowD) (w : World) (hl : len ≤ 1048576) (hl' : len' ≤ 1048576) (hml : ∀ j, j < len' → (f j).nl ≤ 1048576) (hp : np ≤ 1048576) (hmp : ∀ j, j < np → (P j).n ≤ 1048576)
    (hI : IsInts 0 w.heap.size w a len g) (hT : IsTrains 0 w.heap.size w a' len' f) (hP : IsRows 0 w.heap.size w c np P) (hC : Caps w c np) (hg : w.cell? ⟨0, 0, none⟩ = some (.iface 234 (.agg #[.pointer (some ⟨1, 165, none⟩)]))) :
    Calls Tryz.prog 12 #[.agg #[.slice a len cap, .int .i64 gap, .slice a' len' cap'], .agg #[.slice c np nc]] w fun e w' => (∃ v, e = .returned v ∧ w'.ownsRow w.heap.size 44 5 v (meetsOf len g gap len' f np P).length (meetCells (meetsOf len g gap len' f np P))) ∧ Below w.heap.size w w' := by
  obtain ⟨y0, y1, y2, u0⟩ := box2 w a len cap gap a' len' cap' c np nc 26 30
  have hN := b2 w (.cells #[.slice a len cap, .int .i64 gap, .slice a' len' cap'] 26) (.cells #[.slice c np nc] 30)
  have hCh := implCheck_any a len cap g gap a' len' cap' f c np nc P _ hl hl' hml hp hmp (hI.grow hN) (hT.grow hN) (hP.grow hN) (hC.later hN) (cellLater hN hg)
  rcases clashOf_or len g gap len' f np P with hz | hz
  · have hA : meetsOf len g gap len' f np P = allM f P len' len' := by unfold meetsOf; rw [if_pos hz]
    obtain ⟨hF, hS⟩ := clashOf_ok hz
    have hF0 := faultOf_snd hF
    have hR := rightL_of hF0
    have hQ := rightP_of hS
    obtain rfl : np = len' := hQ.np
    rw [hA]
    rw [hz] at hCh
    dsimp only [clashV] at hCh
    clear hA hz hF hF0 hS
    have htr := hR.tr
    obtain ⟨i0, hi, hz0, hz1, hz2⟩ := info_parts Tryz.infoMeet
    have hln := fun i hi => allM_len P htr (fun j hj => (hR.train j hj).nl) i hi
    have hmn := fun i (hi : i < np) d hd => manyM_len P (fun j hj => (hR.train j hj).nl) hi d hd
    have hpn := fun i j (hj : j < np) k => pairM_len P (i := i) (hR.train j hj).nl k
    go_enter Tryz.func12, Tryz.ntmps12
    go_wp2_with (go_at_call 7; refine hCh.mono ?_; rintro _ W ⟨rfl, hB2⟩; have hB := Below.join hN (Nat.le_refl _) hB2; have x0 := cellLater hB2 y0; have x1 := cellLater hB2 y1; have x2 := cellLater hB2 y2; have x3 := cellLater hB2 u0)
    clear hB2 hCh y0 y1 y2 u0 hN
    go_loopw [5, 16] (fun v ii wr => ∃ (i : Nat), i ≤ np ∧ ii = .int .i64 i ∧ Got W wr v (allM f P np i)) (fun _ ii _ => np - (intOf ii).toNat)
    case atStart => exact ⟨0, Nat.zero_le _, rfl, World.ownsRow_nil _ _ _ _, Below.refl _ _⟩
    case round =>
      obtain ⟨i, hin, rfl, hG⟩ := hrel
      by_cases hlt : i < np
      · have hi' : (i : Int) < (np : Int) := by omega
        have hlni := hln i hin
        have hnli := (hR.train i hlt).nl
        go_wp2
        go_loopw [5, 7] (fun v jj wr2 => ∃ (j d : Nat), j = i + 1 + d ∧ j ≤ np ∧ jj = .int .i64 j ∧ Got W wr2 v (allM f P np i ++ manyM f P i d)) (fun _ jj _ => np - (intOf jj).toNat)
        case atStart => exact ⟨i + 1, 0, rfl, by omega, by go_num, by simpa [manyM] using hG⟩
        case round =>
          obtain ⟨j, d, hjd', hjn, rfl, hG2⟩ := hrel
          have hjd : Hid (j = i + 1 + d) := hjd'
          clear hjd'
          have c0 := cellLater hG2.below x0
          have c1 := cellLater hG2.below x1
          have c2 := cellLater hG2.below x2
          have c3 := cellLater hG2.below x3
          by_cases hjlt : j < np
          · have hj' : (j : Int) < (np : Int) := by omega
            have hmni := hmn i hlt d (by have := hjd.out; omega)
            have hpl := hpn i j hjlt ((f i).nl + 1)
            have hLL : (allM f P np i ++ manyM f P i d).length ≤ 4000 := by have := hjd.out; rw [List.length_append]; omega
            have hBw := Below.join hB (Nat.le_refl _) hG2.below
            have hMo := meetsOfI_any a len cap gap a' np cap' f c nc P i j wr hR hQ hlt hjlt (hT.grow hBw) (hP.grow hBw) (hC.later hBw)
            generalize hE2' : allM f P np i ++ manyM f P i d = L2 at hG2 hLL
            have hE2 : Hid _ := hE2'
            clear hE2'
            generalize hEp' : pairM f P i j ((f i).nl + 1) = MM at hMo hpl
            have hEp : Hid _ := hEp'
            clear hEp'
            have hsz := hG2.below.size
            go_wp2_with (first | (go_at_call 44; refine hMo.mono ?_; rintro _ w4 ⟨⟨v4, rfl, hO4⟩, hB4⟩; clear hMo; have hsz4 := hB4.size) | (at_builtin; refine wpList_append_rows _ rfl _ _ 41 rfl W.heap.size _ 44 i0 _ 5 40 Tryz.underlying41 hi hz0 hz1 hz2 rfl (by decide) _ _ _ rfl (ownsRow_later hG2.own hB4) _ _ _ rfl hO4 (meetCells_one _) (by unfold maxLen; omega) (by omega) (by omega) ?_))
            intro v' w6 hown' hgrow
            have hG6 := (hG2.later hB4).row hown' hgrow
            clear hown' hgrow hO4
            go_wp2
            go_roundw
            case rel => exact ⟨j + 1, d + 1, by have := hjd.out; omega, by omega, by go_num, by rw [← hE2.out, ← hEp.out, hjd.out] at hG6; simpa only [manyM, List.append_assoc] using hG6⟩
            case measure => simp [intOf]; omega
          · obtain rfl : j = np := by omega
            go_wp2
            go_roundw
            case rel => exact ⟨i + 1, by omega, by go_num, by rw [show d = j - (i + 1) by have := hjd.out; omega] at hG2; simpa only [allM] using hG2⟩
            case measure => simp [intOf]; omega
      · obtain rfl : i = np := by omega
        go_wp2
        go_ret
        exact ⟨⟨_, rfl, Joins.ownsRow_le hG.own hB.size⟩, Below.join hB (Nat.le_refl _) hG.below⟩
  · have hA : meetsOf len g gap len' f np P = [] := by unfold meetsOf; rw [if_neg (fun h => hz (by rw [h]))]
    rw [hA]
    clear hA
    generalize clashOf len g gap len' f np P = vq at hz hCh
    obtain ⟨v0, v1, v2, v3⟩ := vq
    dsimp only [clashV] at hz hCh
    have hz' : (v0 == 0) = false := by simpa using hz
    go_enter Tryz.func12, Tryz.ntmps12
    go_wp2_with (go_at_call 7; refine hCh.mono ?_; rintro _ w2 ⟨rfl, hB2⟩)
    go_ret
    exact ⟨⟨_, rfl, World.ownsRow_nil _ _ _ _⟩, Below.join hN (Nat.le_refl _) hB2⟩
end Go.Proofs.YtelickcfodcmaaaGreatDoor

namespace Go.Proofs.YtelickcfodcmaaaGreatDoor
open Go.RowKit

end Go.Proofs.YtelickcfodcmaaaGreatDoor

namespace Go.Proofs.YtelickcfodcmaaaGreatDoor
open Go.RowKit

def IsMeets (W : World) (v : Value) (L : List MeetD) : Prop :=
  ∃ a cap, v = .slice a L.length cap ∧ ∀ r, r < L.length → ∃ h g off, L[r]? = some h ∧ a = some ⟨g, off, none⟩ ∧ W.cell? ⟨g, off + r * 5, none⟩ = some (.int .i64 h.a) ∧ W.cell? ⟨g, off + r * 5 + 1, none⟩ = some (.int .i64 h.b) ∧ W.cell? ⟨g, off + r * 5 + 2, none⟩ = some (.int .i64 h.at_) ∧ W.cell? ⟨g, off + r * 5 + 3, none⟩ = some (.int .i64 h.frm) ∧ W.cell? ⟨g, off + r * 5 + 4, none⟩ = some (.int .i64 h.to)
theorem IsMeets.later {W W' : World} {v : Value} {L : List MeetD} (h : IsMeets W v L) (hB : Below W.heap.size W W') : IsMeets W' v L := by
  obtain ⟨a, cap, e, hc⟩ := h
  refine ⟨a, cap, e, fun r hr => ?_⟩
  obtain ⟨x, g, off, hx, e2, c0, c1, c2, c3, c4⟩ := hc r hr
  exact ⟨x, g, off, hx, e2, cellLater hB c0, cellLater hB c1, cellLater hB c2, cellLater hB c3, cellLater hB c4⟩
theorem isMeets_of {W : World} {b0 : Nat} {v : Value} {L : List MeetD} (h : W.ownsRow b0 44 5 v L.length (meetCells L)) : IsMeets W v L := by
  rcases h.2 with ⟨rfl, h0⟩ | ⟨g, cap, cur, rfl, _, hg, _⟩
  · exact ⟨none, 0, by rw [h0], fun r hr => by omega⟩
  · refine ⟨_, cap, rfl, fun r hr => ⟨L[r], g, 0, List.getElem?_eq_getElem hr, rfl, ?_⟩⟩
    obtain ⟨h0, h1, h2, h3, h4⟩ := meetCells_at L r L[r] (List.getElem?_eq_getElem hr)
    have hc := h.cells (g := g) rfl
    have e : ∀ j, (⟨g, 0, none⟩ : Addr).add j = ⟨g, 0 + j, none⟩ := fun j => by unfold Addr.add; split <;> simp_all
    refine ⟨?_, ?_, ?_, ?_, ?_⟩
    · have := hc _ _ h0; rwa [e] at this
    · have := hc _ _ h1; rwa [e] at this
    · have := hc _ _ h2; rwa [e] at this
    · have := hc _ _ h3; rwa [e] at this
    · have := hc _ _ h4; rwa [e] at this

def markedM (q : Int) (n : Nat) : List MeetD := (List.range n).map fun r : Nat => ⟨q + r * 5, q + r * 5 + 1, q + r * 5 + 1 + 1, q + r * 5 + 1 + 1 + 1, q + r * 5 + 1 + 1 + 1 + 1⟩
theorem markedM_len (q : Int) (n : Nat) : (markedM q n).length = n := by simp [markedM]
theorem markedM_at (q : Int) (n r : Nat) (h : r < n) : (markedM q n)[r]? = some ⟨q + r * 5, q + r * 5 + 1, q + r * 5 + 1 + 1, q + r * 5 + 1 + 1 + 1, q + r * 5 + 1 + 1 + 1 + 1⟩ := by simp [markedM, h]

end Go.Proofs.YtelickcfodcmaaaGreatDoor

namespace Go.Proofs.YtelickcfodcmaaaGreatDoor
open Go.RowKit

set_option maxHeartbeats 4000000 in
set_option maxRecDepth 20000 in
theorem implArrives_any (a : Option Addr) (len cap : Nat) (g : Nat → Int) (gap : Int) (a' : Option Addr) (len' cap' : Nat) (f : Nat → TrainD) (c : Option Addr) (np nc : Nat) (P : Nat → RowD) (i : Int) (w : World)
    (hl : len ≤ 1048576) (hl' : len' ≤ 1048576) (hml : ∀ j, j < len' → (f j).nl ≤ 1048576) (hp : np ≤ 1048576) (hmp : ∀ j, j < np → (P j).n ≤ 1048576) (hI : IsInts 0 w.heap.size w a len g) (hT : IsTrains 0 w.heap.size w a' len' f) (hP : IsRows 0 w.heap.size w c np P)
    (hg : w.cell? ⟨0, 0, none⟩ = some (.iface 234 (.agg #[.pointer (some ⟨1, 165, none⟩)]))) :
    Calls Tryz.prog 17 #[.agg #[.slice a len cap, .int .i64 gap, .slice a' len' cap'], .agg #[.slice c np nc], .int .i64 i] w fun e w' => e = .returned (.int .i64 (arrivesOf len g gap len' f np P i)) ∧ Below w.heap.size w w' := by
  obtain ⟨y0, y1, y2, u0⟩ := box2 w a len cap gap a' len' cap' c np nc 26 30
  have hg1 := cellLater (b2 w (.cells #[.slice a len cap, .int .i64 gap, .slice a' len' cap'] 26) (.cells #[.slice c np nc] 30)) hg
  by_cases hF : (faultOf len g gap len' f).1 = 0
  · have hF0 := faultOf_snd hF
    have hR := rightL_of hF0
    have hF1 : Hid (faultOf len g gap len' f = (0, 0)) := hF0
    cases hS : shapeB len' f np P
    · have hA : arrivesOf len g gap len' f np P i = -1 := by unfold arrivesOf; rw [if_neg (by simp [hS])]
      rw [hA]
      clear hF hF0 hA
      go_enter Tryz.func17, Tryz.ntmps17
      go_wp2_with (go_at_call 22; refine (hasShape_yes _ _ _ g _ _ _ _ f _ _ _ P _ hl hl' hp hml hmp (hI.grow (b2 _ _ _)) (hT.grow (b2 _ _ _)) (hP.grow (b2 _ _ _)) hg1 hF1).mono ?_; rw [hS]; rintro e w3 ⟨rfl, hB3⟩)
      go_ret
      exact ⟨rfl, Below.join (b2 _ _ _) (Nat.le_refl _) hB3⟩
    · have hQ := rightP_of hS
      cases hi : inB i 0 (len' - 1)
      · have hA : arrivesOf len g gap len' f np P i = -1 := by unfold arrivesOf; rw [if_neg (by simp [hi])]
        rw [hA]
        clear hF hF0 hA
        go_enter Tryz.func17, Tryz.ntmps17
        go_wp2_with (first | (go_at_call 22; refine (hasShape_yes _ _ _ g _ _ _ _ f _ _ _ P _ hl hl' hp hml hmp (hI.grow (b2 _ _ _)) (hT.grow (b2 _ _ _)) (hP.grow (b2 _ _ _)) hg1 hF1).mono ?_; rw [hS]; rintro e w3 ⟨rfl, hB3⟩; have x2 := cellLater hB3 y2; have z0 := cellLater hB3 u0) | (go_at_call 52; refine (within_any _ _ _ _).mono ?_; rintro e w' ⟨rfl, rfl⟩))
        go_ret
        exact ⟨rfl, Below.join (b2 _ _ _) (Nat.le_refl _) hB3⟩
      · have hA : arrivesOf len g gap len' f np P i = (P i.toNat).s ((f i.toNat).nl - 1) + ((f i.toNat).leg ((f i.toNat).nl - 1)).run := by unfold arrivesOf; rw [if_pos ⟨hF, hS, hi⟩]
        rw [hA]
        have hib := of_decide_eq_true hi
        obtain ⟨k, rfl⟩ : ∃ k : Nat, i = (k : Int) := ⟨i.toNat, by omega⟩
        rw [Int.toNat_natCast]
        have hk : k < len' := by omega
        obtain ⟨e, he⟩ : ∃ e, (f k).nl = e + 1 := ⟨(f k).nl - 1, by have := hR.pos k hk; omega⟩
        rw [he, Nat.add_sub_cancel]
        clear hF hF0 hA hib
        obtain rfl : np = len' := hQ.np
        have htr := hR.tr
        have hRk := hR.train k hk
        have hk' : (k : Int) < (np : Int) := by omega
        have hk0 : (0 : Int) ≤ (k : Int) := by omega
        obtain ⟨s0, s1⟩ := hQ.at0 k hk e (by omega)
        obtain ⟨b, off, la, lc, rfl, _, hb, t0, t1, t2, t3, t4, hlg, _⟩ := hT k hk
        obtain ⟨bp, op, lp, lpc, rfl, _, hbp, p0, hin, _⟩ := hP k hk
        rw [hQ.row k hk, he] at p0 hin
        have hlt : e < (f k).nl := by omega
        clear he
        go_enter Tryz.func17, Tryz.ntmps17
        go_wp2_with (first | (go_at_call 22; refine (hasShape_yes _ _ _ g _ _ _ _ f _ _ _ P _ hl hl' hp hml hmp (hI.grow (b2 _ _ _)) (hT.grow (b2 _ _ _)) (hP.grow (b2 _ _ _)) hg1 hF1).mono ?_; rw [hS]; rintro _ w3 ⟨rfl, hB3⟩; have hBx := Below.join (b2 w _ _) (Nat.le_refl _) hB3; have x2 := cellLater hB3 y2; have z0 := cellLater hB3 u0; replace p0 := cellLater hBx p0; replace t0 := cellLater hBx t0; replace t1 := cellLater hBx t1; replace t2 := cellLater hBx t2; replace t3 := cellLater hBx t3; replace t4 := cellLater hBx t4; replace hlg := hlg.grow hBx.drew; replace hin := hin.grow hBx.drew) | (go_at_call 52; refine (within_any _ _ _ _).mono ?_; rintro _ w' ⟨rfl, rfl⟩))
        go_region_held3 (fun w' => w'.cell? ⟨w.heap.size, 2, none⟩ = some (.slice (some ⟨b, off, none⟩) np cap') ∧ w'.cell? ⟨b, off + k * 5, none⟩ = some (.int .i64 (f k).frm) ∧ w'.cell? ⟨b, off + k * 5 + 1, none⟩ = some (.int .i64 (f k).ready) ∧ w'.cell? ⟨b, off + k * 5 + 2, none⟩ = some (.int .i64 (f k).due) ∧ w'.cell? ⟨b, off + k * 5 + 3, none⟩ = some (.int .i64 (f k).weight) ∧ w'.cell? ⟨b, off + k * 5 + 4, none⟩ = some (.slice la (f k).nl lc) ∧ w'.cell? ⟨w.heap.size + 1, 0, none⟩ = some (.slice (some ⟨bp, op, none⟩) np nc) ∧ w'.cell? ⟨bp, op + k, none⟩ = some (.slice lp (e + 1) lpc)) (first | go_keep | (go_split_ands; refine ⟨?_, ?_, ?_, ?_, ?_, ?_, ?_, ?_⟩ <;> exact cellLater hB4 (by assumption))) ((go_at_call 39; refine (end_any (f k) e _ _ (P k).s _ _ _ hlt hRk s0 s1 hlg hin).mono ?_; rintro _ w4 ⟨rfl, hB4⟩))
        go_wp2
        go_ret
        exact ⟨rfl, Below.join hBx.drew (Nat.le_refl _) hB4⟩
  · have hA : arrivesOf len g gap len' f np P i = -1 := by unfold arrivesOf; rw [if_neg (by simp [hF])]
    rw [hA]
    have hF1 : Hid ((faultOf len g gap len' f).1 ≠ 0) := hF
    clear hF hA
    go_enter Tryz.func17, Tryz.ntmps17
    go_wp2_with (go_at_call 22; refine (hasShape_no _ _ _ g _ _ _ _ f _ _ _ _ hl hl' hml (hI.grow (b2 _ _ _)) (hT.grow (b2 _ _ _)) hg1 hF1).mono ?_; rintro e w2 ⟨rfl, hB2⟩)
    go_ret
    exact ⟨rfl, Below.join (b2 _ _ _) (Nat.le_refl _) hB2⟩
end Go.Proofs.YtelickcfodcmaaaGreatDoor

namespace Go.Proofs.YtelickcfodcmaaaGreatDoor
open Go.RowKit Go.Shelf

section
attribute [local go_sem] Oper.semAt_some

set_option maxRecDepth 100000 in
set_option maxHeartbeats 4000000 in
/-- each's closure over trains: for every loop body that keeps what lay below n₀; fnum: the function that makes a number of a train. -/
theorem eachL_in (F : Fence) (n : Nat) (h48 : F.fn 136) (fnum : Nat) (hfn : F.fn fnum) (hro : F.round = none) (hn : 1 ≤ n) (l Bl Bf n₀ : Nat) (a : Option Addr) (len cap : Nat) (f : Nat → LegD) (g : Nat → Int) (hreach : len ≤ 1048576)
    (henter : ∀ args w, (callFunc fnum args).run Tryz.prog w = .ok (.enter fnum args) w)
    (hnum : ∀ j, j < len → ∀ (W : World), CallsIn F (n - 1) Tryz.prog fnum #[.agg #[.int .i64 (f j).to, .int .i64 (f j).run, .int .i64 (f j).stay]] W fun e W' => e = .returned (.int .i64 (g j)) ∧ Below W.heap.size W W')
    (J Jx : List Int → World → Prop) (W : World) (hJ : AbidesFrom W.heap.size J)
    (hY : ∀ pre x W, J pre W → pre.length < len → YieldAt F (n - 1) Tryz.prog l #[.int .i64 x] W fun e W' =>
      (e = .returned (.bool true) ∧ J (pre ++ [x]) W' ∧ Below n₀ W W') ∨ (e = .returned (.bool false) ∧ Jx (pre ++ [x]) W'))
    (hBl : W.cell? ⟨Bl, 0, none⟩ = some (.slice a len cap)) (hBf : W.cell? ⟨Bf, 0, none⟩ = some (.func (.func fnum) #[] #[])) (hf0 : Bf < n₀) (hn0 : n₀ ≤ W.heap.size) (hT : IsLegs 0 n₀ W a len f) (h0 : J [] W) :
    CallsIn F n Tryz.prog 136 #[.func (.yield l) #[] #[], .pointer (some ⟨Bl, 0, none⟩), .pointer (some ⟨Bf, 0, none⟩)] W fun e W' => (∃ v, e = .returned v) ∧
      ((∃ ys, ys = upto g len ∧ J ys W') ∨ (∃ pre, (∃ k, k ≤ len ∧ pre = upto g k) ∧ Jx pre W')) := by
  refine callsIn_of_wp Tryz.func136 rfl h48 ?_ hro
  simp only [Tryz.ntmps136, List.size_toArray, List.length_cons, List.length_nil, Nat.reduceAdd, Nat.reduceSub, Array.replicate_succ, Array.replicate_zero, List.push_toArray, List.append_toArray, List.nil_append, List.cons_append]
  gi_wp2
  gi_loopw [8] (fun i wr => ∃ k : Nat, k ≤ len ∧ i = .int .i64 k ∧ J (upto g k) wr ∧ Below n₀ W wr) (fun i _ => len - (intOf i).toNat)
  case atStart => exact ⟨0, Nat.zero_le _, rfl, h0, Below.refl _ _⟩
  case round =>
    obtain ⟨k, hk, rfl, hJs, hnx⟩ := hrel
    by_cases hlt : k < len
    · obtain ⟨b, off, rfl, _, hb, c0, c1, c2⟩ := (hT.below hnx (Nat.le_refl _)) k hlt
      have hfx : wr.cell? ⟨Bf, 0, none⟩ = some (.func (.func fnum) #[] #[]) := (hnx.cell (p := ⟨Bf, 0, none⟩) hf0).trans hBf
      have hlw : Bf < wr.heap.size := ltCell hfx
      have hcall := hnum k hlt (wr.alloc (.cells #[.int .i64 (f k).to, .int .i64 (f k).run, .int .i64 (f k).stay] 74))
      gi_wp2
      refine hcall.mono ?_
      rintro e W2 ⟨rfl, hB2⟩
      have hBw : Below wr.heap.size wr W2 := Below.join (b1 wr _) (Nat.le_refl _) hB2
      have hJ2 : J (upto g k) W2 := hJ _ wr W2 none hJs (grownOf hBw) (fun r e => by cases e)
      obtain ⟨fn, tmps, assign, body, hy, hR⟩ := hY _ (g k) W2 hJ2 (by rw [upto_length]; exact hlt)
      gi_wp2
      refine hR.mono ?_
      rintro e W3 (⟨rfl, hJ3, hk3⟩ | ⟨rfl, hJx3⟩)
      · gi_wp2
        go_roundw
        case rel => exact ⟨k + 1, by omega, by go_num, by rw [upto_succ]; exact hJ3, (hnx.trans (hBw.mono (Nat.le_trans hn0 hnx.size))).trans hk3⟩
        case measure => simp [intOf]; omega
      · gi_wp2
        refine bodyPost_ret (results_none rfl _ _ _) rfl ?_
        exact ⟨⟨_, rfl⟩, .inr ⟨_, ⟨k + 1, by omega, (upto_succ _ _).symm⟩, hJx3⟩⟩
    · obtain rfl : k = len := by omega
      gi_wp2
      go_end0
      exact ⟨⟨_, rfl⟩, .inl ⟨_, rfl, hJs⟩⟩

theorem eachL_stops (F : Fence) (n : Nat) (h48 : F.fn 136) (fnum : Nat) (hfn : F.fn fnum) (hro : F.round = none) (hn : 1 ≤ n) (Bl Bf : Nat) (a : Option Addr) (len cap : Nat) (f : Nat → LegD) (g : Nat → Int) (hreach : len ≤ 1048576)
    (henter : ∀ args w, (callFunc fnum args).run Tryz.prog w = .ok (.enter fnum args) w)
    (hnum : ∀ j, j < len → ∀ (W : World), CallsIn F (n - 1) Tryz.prog fnum #[.agg #[.int .i64 (f j).to, .int .i64 (f j).run, .int .i64 (f j).stay]] W fun e W' => e = .returned (.int .i64 (g j)) ∧ Below W.heap.size W W')
    (w : World) (hBl : w.cell? ⟨Bl, 0, none⟩ = some (.slice a len cap)) (hBf : w.cell? ⟨Bf, 0, none⟩ = some (.func (.func fnum) #[] #[])) (hT : IsLegs 0 w.heap.size w a len f) :
    SeqStopsK F n Tryz.prog 136 #[.pointer (some ⟨Bl, 0, none⟩), .pointer (some ⟨Bf, 0, none⟩)] (fun x : Int => #[Value.int .i64 x]) (Below w.heap.size) (fun ys => ys = upto g len) (fun pre => ∃ k, k ≤ len ∧ pre = upto g k) len w := fun l J Jx W hW hJ _ hY h0 =>
  eachL_in F n h48 fnum hfn hro hn l Bl Bf w.heap.size a len cap f g hreach henter hnum J Jx W hJ hY (cellLater hW hBl) (cellLater hW hBf) (ltCell hBf) hW.size (hT.below hW (Nat.le_refl _)) h0

set_option maxHeartbeats 1000000 in
theorem eachL_any (a : Option Addr) (len cap : Nat) (v : Nat) (w : World) :
    Calls Tryz.prog 88 #[.slice a len cap, .func (.func v) #[] #[]] w fun e w' => e = .returned (.func (.func 136) #[] #[.pointer (some ⟨w.heap.size, 0, none⟩), .pointer (some ⟨w.heap.size + 1, 0, none⟩)]) ∧ w' = (w.alloc (.cells #[.slice a len cap] 70)).alloc (.cells #[.func (.func v) #[] #[]] 146) := by
  go_enter Tryz.func88, Tryz.ntmps88
  go_wp2
  go_ret
  exact ⟨rfl, rfl⟩

end

theorem legTicks_any (x y z : Int) (w : World) (h0 : 1 ≤ y) (h1 : y ≤ 10000) (h2 : 0 ≤ z) (h3 : z ≤ 10000) :
    Calls Tryz.prog 89 #[.agg #[.int .i64 x, .int .i64 y, .int .i64 z]] w fun e w' => e = .returned (.int .i64 (z + y)) ∧ Below w.heap.size w w' := by
  go_enter Tryz.func89, Tryz.ntmps89
  go_wp2
  go_ret
  exact ⟨rfl, b1 _ _⟩

theorem sumW_ticks (t : TrainD) (hR : RightT t) : ∀ k, k ≤ t.nl → sumW (upto (fun j => (t.leg j).stay + (t.leg j).run) k) = ticks t k
  | 0, _ => by simp [upto, sumW, ticks]
  | k + 1, hk => by
    rw [upto_succ, sumW_snoc, sumW_ticks t hR k (by omega)]
    have h1 := ticks_bd hR k (by omega)
    have h2 := hR.leg k (by omega)
    have h3 := hR.nl
    have hw : wrap64 (ticks t k + ((t.leg k).stay + (t.leg k).run)) = ticks t k + ((t.leg k).stay + (t.leg k).run) := by unfold wrap64; omega
    rw [hw]; rfl

theorem sumTicks_any (t : TrainD) (hR : RightT t) (la : Option Addr) (lc : Nat) (Bl Bf : Nat) (w : World) (hBl : w.cell? ⟨Bl, 0, none⟩ = some (.slice la t.nl lc)) (hBf : w.cell? ⟨Bf, 0, none⟩ = some (.func (.func 89) #[] #[])) (hL : IsLegs 0 w.heap.size w la t.nl t.leg) :
    Calls Tryz.prog 49 #[.func (.func 136) #[] #[.pointer (some ⟨Bl, 0, none⟩), .pointer (some ⟨Bf, 0, none⟩)]] w fun e w' => e = .returned (.int .i64 (ticks t t.nl)) ∧ Below w.heap.size w w' := by
  have hn := hR.nl
  have h : Calls Tryz.prog 49 #[.func (.func 136) #[] #[.pointer (some ⟨Bl, 0, none⟩), .pointer (some ⟨Bf, 0, none⟩)]] w fun e w' => e = .returned (.int .i64 (sumW (upto (fun j => (t.leg j).stay + (t.leg j).run) t.nl))) ∧ Below w.heap.size w w' :=
    callsIn_wide.1 (sum_in Fence.wide 6 trivial 136 trivial rfl (by omega) _ (enters_of Tryz.func136 (by kernel_rfl) rfl) _ _ t.nl w
      (eachL_stops Fence.wide 5 trivial 89 trivial rfl (by omega) Bl Bf la t.nl lc t.leg (fun j => (t.leg j).stay + (t.leg j).run) (by omega) (enters_of Tryz.func89 (by kernel_rfl) rfl) (fun j hj W => callsIn_wide.2 (by
        obtain ⟨l0, l1, l2, l3⟩ := hR.leg j hj
        exact legTicks_any _ _ _ W l0 l1 l2 l3)) w hBl hBf hL))
  rw [sumW_ticks t hR t.nl (Nat.le_refl _)] at h
  exact h

theorem sumTicks_at (t : TrainD) (hR : RightT t) (la : Option Addr) (lc : Nat) (o : Obj) (w : World) (hL : IsLegs 0 w.heap.size w la t.nl t.leg) :
    Calls Tryz.prog 49 #[.func (.func 136) #[] #[.pointer (some ⟨w.heap.size + 1, 0, none⟩), .pointer (some ⟨w.heap.size + 1 + 1, 0, none⟩)]] (((w.alloc o).alloc (.cells #[.slice la t.nl lc] 70)).alloc (.cells #[.func (.func 89) #[] #[]] 146)).drew
      fun e w' => e = .returned (.int .i64 (ticks t t.nl)) ∧ Below (((w.alloc o).alloc (.cells #[.slice la t.nl lc] 70)).alloc (.cells #[.func (.func 89) #[] #[]] 146)).drew.heap.size (((w.alloc o).alloc (.cells #[.slice la t.nl lc] 70)).alloc (.cells #[.func (.func 89) #[] #[]] 146)).drew w' :=
  sumTicks_any t hR la lc (w.heap.size + 1) (w.heap.size + 1 + 1) _ (by rw [World.cell?_drew, World.cell?_alloc_lt _ _ ⟨w.heap.size + 1, 0, none⟩ (by simp), World.cell?_alloc_at _ _ _ _ (by simp)]; rfl) (by rw [World.cell?_drew, World.cell?_alloc_at _ _ _ _ (by simp)]; rfl) (hL.grow (b3 _ _ _ _).drew)

set_option maxHeartbeats 2000000 in
theorem endAlone_any (t : TrainD) (la : Option Addr) (lc : Nat) (w : World) (hR : RightT t) (hL : IsLegs 0 w.heap.size w la t.nl t.leg) :
    Calls Tryz.prog 53 #[.agg #[.int .i64 t.frm, .int .i64 t.ready, .int .i64 t.due, .int .i64 t.weight, .slice la t.nl lc]] w fun e w' => e = .returned (.int .i64 (endOf t)) ∧ Below w.heap.size w w' := by
  have hr0 := hR.r0
  have hr1 := hR.r1
  have hn := hR.nl
  obtain ⟨k0, k1⟩ := ticks_bd hR t.nl (Nat.le_refl _)
  have k2 : ticks t t.nl ≤ 200000 := by omega
  clear k1
  go_enter Tryz.func53, Tryz.ntmps53
  go_wp2
  go_region_held3 (fun w' => w'.cell? ⟨w.heap.size, 1, none⟩ = some (.int .i64 t.ready) ∧ w'.cell? ⟨w.heap.size, 4, none⟩ = some (.slice la t.nl lc)) (first | go_keep | (go_split_ands; refine ⟨?_, ?_⟩ <;> exact cellLater (b2 _ _ _) (by assumption)) | (go_split_ands; refine ⟨?_, ?_⟩ <;> exact cellLater hB3 (by assumption))) ((first | (go_at_call 88; refine (eachL_any _ _ _ _ _).mono ?_; rintro e w2 ⟨rfl, rfl⟩) | (go_at_call 49; refine (sumTicks_at t hR _ _ _ _ hL).mono ?_; rintro e w3 ⟨rfl, hB3⟩)))
  have hw : IntKind.i64.wrap (t.ready + ticks t t.nl) = endOf t := by rw [IntKind.wrap_i64]; unfold endOf; omega
  rw [hw]
  go_wp2
  go_ret
  exact ⟨rfl, Below.join (b3 _ _ _ _).drew (Nat.le_refl _) hB3⟩

theorem lateness_any (t : TrainD) (e : Int) (la : Option Addr) (lc : Nat) (w : World) (hR : RightT t) (h0 : 0 ≤ e) (h1 : e ≤ 300000) :
    Calls Tryz.prog 38 #[.agg #[.int .i64 t.frm, .int .i64 t.ready, .int .i64 t.due, .int .i64 t.weight, .slice la t.nl lc], .int .i64 e] w fun ev w' => ev = .returned (.int .i64 (lateOf t e)) ∧ Below w.heap.size w w' := by
  have hd0 := hR.d0
  have hd1 := hR.d1
  have hw0 := hR.w0
  have hw1 := hR.w1
  obtain ⟨lb0, lb1⟩ := lateOf_bd hR h0 h1
  by_cases hc : e ≤ t.due
  · have hL : lateOf t e = 0 := by unfold lateOf; rw [if_pos hc]
    rw [hL]
    clear hL lb0 lb1
    go_enter Tryz.func38, Tryz.ntmps38
    go_wp2
    go_ret
    exact ⟨rfl, b1 _ _⟩
  · have hL : lateOf t e = t.weight * (e - t.due) := by unfold lateOf; rw [if_neg hc]
    rw [hL] at lb0 lb1 ⊢
    clear hL
    go_enter Tryz.func38, Tryz.ntmps38
    go_wp2
    go_ret
    exact ⟨rfl, b1 _ _⟩
end Go.Proofs.YtelickcfodcmaaaGreatDoor

namespace Go.Proofs.YtelickcfodcmaaaGreatDoor
open Go.RowKit

/-- when a train would be at its end, or -1 -/
def aloneOf (nt : Nat) (g : Nat → Int) (gap : Int) (ntr : Nat) (f : Nat → TrainD) (i : Int) : Int :=
  if (faultOf nt g gap ntr f).1 = 0 ∧ inB i 0 (ntr - 1) = true then endOf (f i.toNat) else -1

/-- what the lateness of all trains costs, each alone, or -1 -/
def leastOf (nt : Nat) (g : Nat → Int) (gap : Int) (ntr : Nat) (f : Nat → TrainD) : Int :=
  if (faultOf nt g gap ntr f).1 = 0 then costSum f ntr else -1

end Go.Proofs.YtelickcfodcmaaaGreatDoor

namespace Go.Proofs.YtelickcfodcmaaaGreatDoor
open Go.RowKit Go.Shelf

set_option maxHeartbeats 2000000 in
theorem costAlone_any (t : TrainD) (la : Option Addr) (lc : Nat) (w : World) (hR : RightT t) (hL : IsLegs 0 w.heap.size w la t.nl t.leg) :
    Calls Tryz.prog 51 #[.agg #[.int .i64 t.frm, .int .i64 t.ready, .int .i64 t.due, .int .i64 t.weight, .slice la t.nl lc]] w fun e w' => e = .returned (.int .i64 (lateOf t (endOf t))) ∧ Below w.heap.size w w' := by
  obtain ⟨e0, e1⟩ := endOf_bd hR
  have hLd : IsLegs 0 (w.alloc (.cells #[.int .i64 t.frm, .int .i64 t.ready, .int .i64 t.due, .int .i64 t.weight, .slice la t.nl lc] 72)).drew.heap.size (w.alloc (.cells #[.int .i64 t.frm, .int .i64 t.ready, .int .i64 t.due, .int .i64 t.weight, .slice la t.nl lc] 72)).drew la t.nl t.leg := hL.grow (b1 _ _).drew
  go_enter Tryz.func51, Tryz.ntmps51
  go_wp2
  go_region_held3 (fun w' => w'.cell? ⟨w.heap.size, 0, none⟩ = some (.int .i64 t.frm) ∧ w'.cell? ⟨w.heap.size, 1, none⟩ = some (.int .i64 t.ready) ∧ w'.cell? ⟨w.heap.size, 2, none⟩ = some (.int .i64 t.due) ∧ w'.cell? ⟨w.heap.size, 3, none⟩ = some (.int .i64 t.weight) ∧ w'.cell? ⟨w.heap.size, 4, none⟩ = some (.slice la t.nl lc)) (first | go_keep | (go_split_ands; refine ⟨?_, ?_, ?_, ?_, ?_⟩ <;> exact cellLater hB3 (by assumption)) | (go_split_ands; refine ⟨?_, ?_, ?_, ?_, ?_⟩ <;> exact cellLater hB4 (by assumption))) ((first | (go_at_call 53; refine (endAlone_any t _ _ _ hR hLd).mono ?_; rintro e w3 ⟨rfl, hB3⟩) | (go_at_call 38; refine (lateness_any t _ _ _ _ hR e0 e1).mono ?_; rintro e w4 ⟨rfl, hB4⟩)))
  go_wp2
  go_ret
  exact ⟨rfl, Below.join (Below.join (b1 _ _).drew (Nat.le_refl _) hB3) (Nat.le_refl _) hB4⟩

set_option maxHeartbeats 2000000 in
theorem implAlone_any (a : Option Addr) (len cap : Nat) (g : Nat → Int) (gap : Int) (a' : Option Addr) (len' cap' : Nat) (f : Nat → TrainD) (i : Int) (w : World) (hl : len ≤ 1048576) (hl' : len' ≤ 1048576) (hml : ∀ j, j < len' → (f j).nl ≤ 1048576)
    (hI : IsInts 0 w.heap.size w a len g) (hT : IsTrains 0 w.heap.size w a' len' f) (hg : w.cell? ⟨0, 0, none⟩ = some (.iface 234 (.agg #[.pointer (some ⟨1, 165, none⟩)]))) :
    Calls Tryz.prog 18 #[.agg #[.slice a len cap, .int .i64 gap, .slice a' len' cap'], .int .i64 i] w fun e w' => e = .returned (.int .i64 (aloneOf len g gap len' f i)) ∧ Below w.heap.size w w' := by
  have hg1 := cellLater (b1 w (.cells #[.slice a len cap, .int .i64 gap, .slice a' len' cap'] 26)) hg
  by_cases hF : (faultOf len g gap len' f).1 = 0
  · have hF0 := faultOf_snd hF
    have hR := rightL_of hF0
    have hF1 : Hid (faultOf len g gap len' f = (0, 0)) := hF0
    cases hi : inB i 0 (len' - 1)
    · have hA : aloneOf len g gap len' f i = -1 := by unfold aloneOf; rw [if_neg (by simp [hi])]
      rw [hA]
      clear hF hF0 hA
      go_enter Tryz.func18, Tryz.ntmps18
      go_wp2_with (first | (go_at_call 40; refine (isRight_yes _ _ _ g _ _ _ _ f _ hl hl' hml (hI.grow (b1 _ _)) (hT.grow (b1 _ _)) hg1 hF1).mono ?_; rintro e w2 ⟨rfl, hB2⟩; obtain ⟨hc, hf⟩ := bcell hB2; have hBx := Below.join (b1 w _) (Nat.le_refl _) hB2) | (go_at_call 52; refine (within_any _ _ _ _).mono ?_; rintro e w' ⟨rfl, rfl⟩))
      go_ret
      exact ⟨rfl, hBx⟩
    · have hA : aloneOf len g gap len' f i = endOf (f i.toNat) := by unfold aloneOf; rw [if_pos ⟨hF, hi⟩]
      rw [hA]
      have hib := of_decide_eq_true hi
      obtain ⟨k, rfl⟩ : ∃ k : Nat, i = (k : Int) := ⟨i.toNat, by omega⟩
      rw [Int.toNat_natCast]
      have hk : k < len' := by omega
      have hRk := hR.train k hk
      clear hF hF0 hA hib
      have hk' : (k : Int) < (len' : Int) := by omega
      obtain ⟨b, off, la, lc, rfl, _, _, c0, c1, c2, c3, c4, hlg, _⟩ := hT k hk
      go_enter Tryz.func18, Tryz.ntmps18
      go_wp2_with (first | (go_at_call 40; refine (isRight_yes _ _ _ g _ _ _ _ f _ hl hl' hml (hI.grow (b1 _ _)) (hT.grow (b1 _ _)) hg1 hF1).mono ?_; rintro e w2 ⟨rfl, hB2⟩; have hBx := Below.join (b1 w _) (Nat.le_refl _) hB2; have q2 := cellLater hB2 (new3 w _ _ _ _).2.2; replace c0 := cellLater hBx c0; replace c1 := cellLater hBx c1; replace c2 := cellLater hBx c2; replace c3 := cellLater hBx c3; replace c4 := cellLater hBx c4; replace hlg := hlg.grow hBx) | (go_at_call 52; refine (within_any _ _ _ _).mono ?_; rintro e w' ⟨rfl, rfl⟩) | (go_at_call 53; refine (endAlone_any (f k) _ _ _ hRk hlg).mono ?_; rintro e w3 ⟨rfl, hB3⟩))
      go_ret
      exact ⟨rfl, Below.join hBx (Nat.le_refl _) hB3⟩
  · have hA : aloneOf len g gap len' f i = -1 := by unfold aloneOf; rw [if_neg (by simp [hF])]
    rw [hA]
    have hF1 : Hid ((faultOf len g gap len' f).1 ≠ 0) := hF
    clear hF hA
    go_enter Tryz.func18, Tryz.ntmps18
    go_wp2_with (go_at_call 40; refine (isRight_no _ _ _ g _ _ _ _ f _ hl hl' hml (hI.grow (b1 _ _)) (hT.grow (b1 _ _)) hg1 hF1.out).mono ?_; rintro e w2 ⟨rfl, hB2⟩)
    go_ret
    exact ⟨rfl, Below.join (b1 _ _) (Nat.le_refl _) hB2⟩

theorem sumW_cost (f : Nat → TrainD) (n : Nat) (hn : n ≤ 5) (hR : ∀ j, j < n → RightT (f j)) : ∀ k, k ≤ n → sumW (upto (fun j => lateOf (f j) (endOf (f j))) k) = costSum f k
  | 0, _ => by simp [upto, sumW, costSum]
  | k + 1, hk => by
    rw [upto_succ, sumW_snoc, sumW_cost f n hn hR k (by omega)]
    have h1 := costSum_bd hR k (by omega)
    have h2 := endOf_bd (hR k (by omega))
    have h3 := lateOf_bd (hR k (by omega)) h2.1 h2.2
    have hw : wrap64 (costSum f k + lateOf (f k) (endOf (f k))) = costSum f k + lateOf (f k) (endOf (f k)) := by unfold wrap64; omega
    rw [hw]; rfl

theorem sumCost_at (a' : Option Addr) (len' cap' : Nat) (f : Nat → TrainD) (w : World) (hn : len' ≤ 5) (hR : ∀ j, j < len' → RightT (f j)) (hT : IsTrains 0 w.heap.size w a' len' f) :
    Calls Tryz.prog 49 #[.func (.func 87) #[] #[.pointer (some ⟨w.heap.size, 0, none⟩), .pointer (some ⟨w.heap.size + 1, 0, none⟩)]] ((w.alloc (.cells #[.slice a' len' cap'] 24)).alloc (.cells #[.func (.func 51) #[] #[]] 102))
      fun e w' => e = .returned (.int .i64 (costSum f len')) ∧ Below w.heap.size w w' := by
  have h := sumT_any 51 a' len' cap' f (fun j => lateOf (f j) (endOf (f j))) (by omega) (enters_of Tryz.func51 (by kernel_rfl) rfl) (fun j hj la lc W hL => costAlone_any (f j) la lc W (hR j hj) hL) w.heap.size (w.heap.size + 1) ((w.alloc (.cells #[.slice a' len' cap'] 24)).alloc (.cells #[.func (.func 51) #[] #[]] 102)) (by rw [World.cell?_alloc_lt _ _ ⟨w.heap.size, 0, none⟩ (by simp), World.cell?_alloc_at _ _ _ _ rfl]; rfl) (by rw [World.cell?_alloc_at _ _ _ _ (by simp)]; rfl) (hT.grow (b2 _ _ _))
  rw [sumW_cost f len' hn hR len' (Nat.le_refl _)] at h
  exact h.mono fun e w' ⟨he, hb⟩ => ⟨he, Below.join (b2 _ _ _) (Nat.le_refl _) hb⟩

set_option maxHeartbeats 2000000 in
theorem implLeast_any (a : Option Addr) (len cap : Nat) (g : Nat → Int) (gap : Int) (a' : Option Addr) (len' cap' : Nat) (f : Nat → TrainD) (w : World) (hl : len ≤ 1048576) (hl' : len' ≤ 1048576) (hml : ∀ j, j < len' → (f j).nl ≤ 1048576)
    (hI : IsInts 0 w.heap.size w a len g) (hT : IsTrains 0 w.heap.size w a' len' f) (hg : w.cell? ⟨0, 0, none⟩ = some (.iface 234 (.agg #[.pointer (some ⟨1, 165, none⟩)]))) :
    Calls Tryz.prog 16 #[.agg #[.slice a len cap, .int .i64 gap, .slice a' len' cap']] w fun e w' => e = .returned (.int .i64 (leastOf len g gap len' f)) ∧ Below w.heap.size w w' := by
  have hg1 := cellLater (b1 w (.cells #[.slice a len cap, .int .i64 gap, .slice a' len' cap'] 26)) hg
  by_cases hF : (faultOf len g gap len' f).1 = 0
  · have hF0 := faultOf_snd hF
    have hR := rightL_of hF0
    have hF1 : Hid (faultOf len g gap len' f = (0, 0)) := hF0
    have hA : leastOf len g gap len' f = costSum f len' := by unfold leastOf; rw [if_pos hF]
    rw [hA]
    have htr := hR.tr
    clear hF hF0 hA
    go_enter Tryz.func16, Tryz.ntmps16
    go_wp2_with (first | (go_at_call 40; refine (isRight_yes _ _ _ g _ _ _ _ f _ hl hl' hml (hI.grow (b1 _ _)) (hT.grow (b1 _ _)) hg1 hF1).mono ?_; rintro e w2 ⟨rfl, hB2⟩; have hBx := Below.join (b1 w _) (Nat.le_refl _) hB2; have q2 := cellLater hB2 (new3 w _ _ _ _).2.2) | (go_at_call 50; refine (eachT_any _ _ _ _ _).mono ?_; rintro e w' ⟨rfl, rfl⟩) | (go_at_call 49; refine (sumCost_at _ _ _ f _ htr hR.train (hT.grow hBx)).mono ?_; rintro e w4 ⟨rfl, hB4⟩))
    go_ret
    exact ⟨rfl, Below.join hBx (Nat.le_refl _) hB4⟩
  · have hA : leastOf len g gap len' f = -1 := by unfold leastOf; rw [if_neg (by simp [hF])]
    rw [hA]
    have hF1 : Hid ((faultOf len g gap len' f).1 ≠ 0) := hF
    clear hF hA
    go_enter Tryz.func16, Tryz.ntmps16
    go_wp2_with (go_at_call 40; refine (isRight_no _ _ _ g _ _ _ _ f _ hl hl' hml (hI.grow (b1 _ _)) (hT.grow (b1 _ _)) hg1 hF1.out).mono ?_; rintro e w2 ⟨rfl, hB2⟩)
    go_ret
    exact ⟨rfl, Below.join (b1 _ _) (Nat.le_refl _) hB2⟩
end Go.Proofs.YtelickcfodcmaaaGreatDoor

namespace Go.Proofs.YtelickcfodcmaaaGreatDoor
open Go.RowKit Go.Deep Go.ChangeShapes Go.WideShapes Go.Joins

theorem Tryz.cellsInt : Tryz.prog.cellsOf 3 = 1 := by kernel_rfl
section
variable {H : Type} {enc : TypeId × Value → H} {w : World} {base : Nat} {spare : Nat → Bool} {held : Bool}

theorem spotOf {a : Addr} {i : Nat} {v : Value} (h : w.cell? (a.add 0) = some v) : ∃ b off, a = ⟨b, off, none⟩ ∧ a.add i = ⟨b, off + i, none⟩ := by
  obtain ⟨b, off, spot⟩ := a
  have hspot : spot = none := by simpa [Addr.add] using World.cell?_spot h
  subst hspot
  exact ⟨b, off, rfl, Go.WideShapes.add_plain _ _ _⟩

theorem readInts {fuel : Nat} {v : Value} {x : DataW H × List MemPlace} (h : DataW.trod enc Tryz.prog w base spare held fuel 23 [v] = some x) :
    ∃ (a : Option Addr) (len cap : Nat) (f : Nat → Int), v = .slice a len cap ∧ len ≤ maxLen ∧ IsInts 0 w.heap.size w a len f := by
  rcases open_slice1 Tryz.underlying23 Tryz.cellsInt h with ⟨hcs, _⟩ | ⟨a, len, cap, m, n, V, D, Pl, hcs, _, hl, hm, hmm, _, hx⟩
  · exact ⟨none, 0, 0, fun _ => 0, by simpa using hcs, Nat.zero_le _, fun j hj => absurd hj (Nat.not_lt_zero _)⟩
  · have hle : len ≤ m := by rw [hmm]; split <;> omega
    obtain ⟨f, hf⟩ := choose_lt (α := Int) (n := len) (p := fun i y => w.cell? (a.add i) = some (.int .i64 y)) (fun i hi => by
      obtain ⟨h1, h2⟩ := hx i (by omega)
      obtain ⟨y, e, _, _⟩ := DataW.trod_int Tryz.underlying3 h2
      simp at e
      exact ⟨y, by rw [h1, e]⟩)
    refine ⟨some a, len, cap, f, by simpa using hcs, by omega, fun j hj => ?_⟩
    obtain ⟨b, off, rfl, e⟩ := spotOf (i := j) (hf 0 (by omega))
    have := hf j hj
    rw [e] at this
    exact ⟨b, off, rfl, Nat.zero_le _, ltCell (a := ⟨b, _, none⟩) this, this⟩

theorem cells3Of {a : Addr} {cs : List Value} (h : w.cells? base a 3 = some cs) : ∃ x y z, cs = [x, y, z] ∧ w.cell? (a.add 0) = some x ∧ w.cell? (a.add 1) = some y ∧ w.cell? (a.add 2) = some z := by
  unfold World.cells? at h
  split at h
  · simp [List.range, List.range.loop, Option.bind_eq_some_iff] at h
    obtain ⟨x, hx, l, ⟨y, hy, l', ⟨z, hz, rfl⟩, rfl⟩, rfl⟩ := h
    exact ⟨x, y, z, rfl, hx, hy, hz⟩
  · cases h
theorem cells5Of {a : Addr} {cs : List Value} (h : w.cells? base a 5 = some cs) : ∃ x y z u v, cs = [x, y, z, u, v] ∧ w.cell? (a.add 0) = some x ∧ w.cell? (a.add 1) = some y ∧ w.cell? (a.add 2) = some z ∧ w.cell? (a.add 3) = some u ∧ w.cell? (a.add 4) = some v := by
  unfold World.cells? at h
  split at h
  · simp [List.range, List.range.loop, Option.bind_eq_some_iff] at h
    obtain ⟨x, hx, l, ⟨y, hy, l', ⟨z, hz, l'', ⟨u, hu, l3, ⟨v, hv, rfl⟩, rfl⟩, rfl⟩, rfl⟩, rfl⟩ := h
    exact ⟨x, y, z, u, v, rfl, hx, hy, hz, hu, hv⟩
  · cases h

instance : Inhabited LegD := ⟨⟨0, 0, 0⟩⟩
instance : Inhabited TrainD := ⟨⟨0, 0, 0, 0, 0, fun _ => default⟩⟩

end
end Go.Proofs.YtelickcfodcmaaaGreatDoor

namespace Go.Proofs.YtelickcfodcmaaaGreatDoor
open Go.RowKit Go.Deep Go.ChangeShapes Go.WideShapes Go.Joins

theorem Tryz.cellsByte : Tryz.prog.cellsOf 5 = 1 := by kernel_rfl
theorem u8_wf {n : Int} (h : (Lit.int .u8 n).wf = true) : 0 ≤ n ∧ n ≤ 255 := by
  simp only [Lit.wf, Bool.and_eq_true, decide_eq_true_eq] at h
  have h0 : IntKind.u8.min = 0 := by decide
  have h1 : IntKind.u8.max = 255 := by decide
  omega
section
variable {H : Type} {enc : TypeId × Value → H} {w : World} {base : Nat} {spare : Nat → Bool} {held : Bool}
theorem readBytes {fuel : Nat} {v : Value} {x : DataW H × List MemPlace} (h : DataW.trod enc Tryz.prog w base spare held fuel 22 [v] = some x) :
    ∃ (a : Option Addr) (len cap : Nat), v = .slice a len cap ∧ IsB w a len := by
  rcases open_slice1 Tryz.underlying22 Tryz.cellsByte h with ⟨hcs, _⟩ | ⟨a, len, cap, m, n, V, D, Pl, hcs, _, hl, hm, hmm, _, hx⟩
  · exact ⟨none, 0, 0, by simpa using hcs, fun j hj => absurd hj (Nat.not_lt_zero _)⟩
  · have hle : len ≤ m := by rw [hmm]; split <;> omega
    obtain ⟨f, hf⟩ := choose_lt (α := Int) (n := len) (p := fun i y => w.cell? (a.add i) = some (.int .u8 y) ∧ 0 ≤ y ∧ y ≤ 255) (fun i hi => by
      obtain ⟨h1, h2⟩ := hx i (by omega)
      obtain ⟨y, e, _, hwf⟩ := DataW.trod_int Tryz.underlying5 h2
      simp at e
      exact ⟨y, by rw [h1, e], u8_wf hwf⟩)
    refine ⟨some a, len, cap, by simpa using hcs, fun j hj => ?_⟩
    obtain ⟨b, off, rfl, e⟩ := spotOf (i := j) (hf 0 (by omega)).1
    have := hf j hj
    rw [e] at this
    exact ⟨b, off, f j, rfl, this.1, this.2⟩
end
end Go.Proofs.YtelickcfodcmaaaGreatDoor
