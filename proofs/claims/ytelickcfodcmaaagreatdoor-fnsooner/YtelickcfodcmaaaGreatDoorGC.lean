/-
  The plan of an order, step by step, as plain data.
  The model's record of what is placed, made anew.
  The law of plans of their own order: its loop over the starts.
  The draws of the model: a line, its trains.
-/
import Derived.Test.YtelickcfodcmaaaGreatDoorPlainQ
import Derived.Test.YtelickcfodcmaaaGreatDoorPlainH
import Derived.Test.YtelickcfodcmaaaGreatDoorSpecU
import Derived.Test.YtelickcfodcmaaaGreatDoorGB
import Derived.Test.YtelickcfodcmaaaGreatDoorGA
import Derived.Deep.RegionHeld3
namespace Go.Proofs.YtelickcfodcmaaaGreatDoor
open Go.RowKit

theorem leave_bd {len np : Nat} {f : Nat → TrainD} {P : Nat → RowD} {last : Int} (hR : RightL len np f) (hQ : PartP np f P last) {j k : Nat} (hj : j < np) (hk : k < (P j).n) {e : Int} (he : leaveO f P j k = some e) : 0 ≤ e ∧ e ≤ last + 10000 := by
  have hn := hQ.le j hj
  have h1 := hQ.at0 j hj k hk
  obtain ⟨r0, r1, _⟩ := (hR.train j hj).leg k (by omega)
  unfold leaveO at he
  split at he
  · have := hQ.at0 j hj (k + 1) (by omega); simp only [Option.some.injEq] at he; omega
  · split at he
    · cases he
    · simp only [Option.some.injEq] at he; omega
theorem first_bd {len np : Nat} {g : Nat → Int} {f : Nat → TrainD} {P : Nat → RowD} {last s low t : Int} (hR : RightL len np f) (hQ : PartP np f P last) (h : IsFirst np g f P s low t) (hl : low ≤ last + 20000 ∨ low ≤ 110000) : t ≤ last + 20001 ∨ t ≤ 110000 := by
  rcases Int.lt_or_le low t with h1 | h1
  · left
    rcases Int.lt_or_le (last + 10001) t with h2 | h2
    · exfalso
      have hf := h.2.2 (t - 1) (by omega) (by omega)
      refine h.2.1 ?_
      unfold fullAt at *
      rw [thereAll_same (t := t - 1) (t' := t) (by omega) np (fun j hj k hk _ e he h3 => by have := leave_bd hR hQ hj hk he; omega)]
      exact hf
    · omega
  · have := h.1
    rcases hl with h2 | h2
    · left; omega
    · right; omega
theorem ready_bd {len np : Nat} {f : Nat → TrainD} {P : Nat → RowD} {last : Int} (hR : RightL len np f) (hQ : PartP np f P last) {i : Nat} (hi : i < np) (hk : (P i).n < (f i).nl) : 0 ≤ readyOf f P i (P i).n ∧ (readyOf f P i (P i).n ≤ last + 20000 ∨ readyOf f P i (P i).n ≤ 110000) := by
  have hRi := hR.train i hi
  have hr0 := hRi.r0
  have hr1 := hRi.r1
  have hl0 := hQ.l0
  cases hn : (P i).n with
  | zero => obtain ⟨_, _, l2, l3⟩ := hRi.leg 0 (by omega); simp only [readyOf]; omega
  | succ k =>
    have h1 := hQ.at0 i hi k (by omega)
    obtain ⟨r0, r1, _, _⟩ := hRi.leg k (by omega)
    obtain ⟨_, _, l2, l3⟩ := hRi.leg (k + 1) (by omega)
    simp only [readyOf]; omega
theorem low_bd {len np : Nat} {g : Nat → Int} {gap : Int} {f : Nat → TrainD} {P : Nat → RowD} {last : Int} (hR : RightL len np f) (hG : RightG len g gap np f) (hQ : PartP np f P last) {i : Nat} (hi : i < np) (hk : (P i).n < (f i).nl) : last ≤ lowOf np f P gap last i ∧ (lowOf np f P gap last i ≤ last + 20000 ∨ lowOf np f P gap last i ≤ 110000) := by
  have hrd := ready_bd hR hQ hi hk
  have g0 := hG.g0
  have g1 := hG.g1
  have hl0 := hQ.l0
  have hm : last ≤ maxZ (readyOf f P i (P i).n) last ∧ (maxZ (readyOf f P i (P i).n) last ≤ last + 20000 ∨ maxZ (readyOf f P i (P i).n) last ≤ 110000) := by unfold maxZ; split <;> omega
  have hB : ∀ B, maxZ (readyOf f P i (P i).n) last ≤ B → last + 20000 ≤ B → last ≤ lowOf np f P gap last i ∧ lowOf np f P gap last i ≤ B := fun B h1 h2 => by
    have := trackAll_bd (f := f) (P := P) (gap := gap) (i := i) (k := (P i).n) h1 (n := np) (fun j hj m hmm => by
      have h3 := hQ.at0 j hj m hmm
      obtain ⟨r0, r1, _⟩ := (hR.train j hj).leg m (by have := hQ.le j hj; omega)
      omega) np (Nat.le_refl _)
    unfold lowOf
    exact ⟨by omega, this.2⟩
  rcases Int.lt_or_le (last + 20000) 110000 with h | h
  · have := hB 110000 (by omega) (by omega); exact ⟨this.1, Or.inr this.2⟩
  · have := hB (last + 20000) (by omega) (by omega); exact ⟨this.1, Or.inl this.2⟩
theorem PartP.more {len np : Nat} {g : Nat → Int} {gap : Int} {f : Nat → TrainD} {P : Nat → RowD} {last t : Int} (hR : RightL len np f) (hG : RightG len g gap np f) (hQ : PartP np f P last) {i : Nat} (hi : i < np) (hk : (P i).n < (f i).nl) (h : IsFirst np g f P (stOf f P i) (lowOf np f P gap last i) t) {k : Nat} (hk10 : k < 10) (hl : last ≤ 110000 + 20001 * k) :
    PartP np f (moreP P i t) t ∧ t ≤ 110000 + 20001 * ((k + 1 : Nat) : Int) := by
  have h1 := low_bd hR hG hQ hi hk
  have h2 := first_bd hR hQ h h1.2
  have h3 := h.1
  have hl0 := hQ.l0
  have hb : t ≤ 110000 + 20001 * ((k + 1 : Nat) : Int) := by omega
  refine ⟨⟨fun j hj => ?_, fun j hj m hm => ?_, by omega, by omega⟩, hb⟩
  · by_cases e : j = i
    · subst e; simp only [moreP, if_pos]; omega
    · simp only [moreP, if_neg e]; exact hQ.le j hj
  · by_cases e : j = i
    · subst e
      simp only [moreP, if_pos] at hm ⊢
      by_cases e2 : m = (P j).n
      · rw [if_pos e2]; omega
      · rw [if_neg e2]; have := hQ.at0 j hj m (by omega); omega
    · simp only [moreP, if_neg e] at hm ⊢
      have := hQ.at0 j hj m hm; omega

structure StP where
  code : Int
  at_ : Nat
  P : Nat → RowD
  last : Int
noncomputable def stepP (np : Nat) (g : Nat → Int) (f : Nat → TrainD) (gap : Int) (o : Int) (k : Nat) (st : StP) : StP :=
  if st.code ≠ 0 then st else if inB o 0 ((np : Int) - 1) = true then
    (if (nextOf np g f st.P gap st.last o.toNat).1 = 0 then ⟨0, 0, moreP st.P o.toNat (nextOf np g f st.P gap st.last o.toNat).2, (nextOf np g f st.P gap st.last o.toNat).2⟩ else ⟨(nextOf np g f st.P gap st.last o.toNat).1, k, st.P, st.last⟩)
  else ⟨2, k, st.P, st.last⟩
noncomputable def runP (np : Nat) (g : Nat → Int) (f : Nat → TrainD) (gap : Int) (o : Nat → Int) : Nat → StP
  | 0 => ⟨0, 0, fun _ => ⟨0, fun _ => 0⟩, 0⟩
  | k + 1 => stepP np g f gap (o k) k (runP np g f gap o k)
/-- how many legs of each are placed, in all -/
def rowSumQ (P : Nat → RowD) : Nat → Nat
  | 0 => 0
  | i + 1 => rowSumQ P i + (P i).n
theorem rowSumQ_more {P : Nat → RowD} {i : Nat} {t : Int} : ∀ n, rowSumQ (moreP P i t) n = rowSumQ P n + (if i < n then 1 else 0)
  | 0 => rfl
  | n + 1 => by
    simp only [rowSumQ, rowSumQ_more n]
    by_cases e : n = i
    · subst e; simp [moreP]; omega
    · have h : (moreP P i t n).n = (P n).n := by simp [moreP, e]
      rw [h]
      by_cases h2 : i < n
      · rw [if_pos h2, if_pos (by omega)]; omega
      · rw [if_neg h2, if_neg (by omega)]; omega
/-- a run that has come so far without a code -/
structure RunOk (len np : Nat) (g : Nat → Int) (f : Nat → TrainD) (gap : Int) (st : StP) (k : Nat) : Prop where
  part : PartP np f st.P st.last
  lb : st.last ≤ 110000 + 20001 * (k : Int)
  sum : rowSumQ st.P np = k
theorem runP_zero (np : Nat) (g : Nat → Int) (f : Nat → TrainD) (gap : Int) (o : Nat → Int) (len : Nat) : RunOk len np g f gap (runP np g f gap o 0) 0 := by
  refine ⟨⟨fun j _ => Nat.zero_le _, fun j _ m hm => ?_, by show (0 : Int) ≤ 0; omega, by show (0 : Int) ≤ 600000; omega⟩, by show (0 : Int) ≤ _; omega, ?_⟩
  · exact absurd hm (Nat.not_lt_zero _)
  · show rowSumQ (fun _ => ⟨0, fun _ => 0⟩) np = 0
    induction np with
    | zero => rfl
    | succ n ih => simp only [rowSumQ, ih]
theorem runOk_step {len np : Nat} {g : Nat → Int} {gap : Int} {f : Nat → TrainD} (hR : RightL len np f) (hG : RightG len g gap np f) {st : StP} {k : Nat} (h : RunOk len np g f gap st k) (hc : st.code = 0) {i : Nat} (hi : i < np) {t : Int} (hk : (st.P i).n < (f i).nl) (hf : IsFirst np g f st.P (stOf f st.P i) (lowOf np f st.P gap st.last i) t) (hk10 : k < 10) :
    stepP np g f gap (i : Int) k st = ⟨0, 0, moreP st.P i t, t⟩ ∧ RunOk len np g f gap ⟨0, 0, moreP st.P i t, t⟩ (k + 1) := by
  have hn := nextOf_ok (np := np) (g := g) (gap := gap) (last := st.last) (by omega) hf
  have hp := h.part.more hR hG hi hk hf hk10 h.lb
  refine ⟨?_, hp.1, hp.2, ?_⟩
  · unfold stepP
    rw [if_neg (by simp [hc]), if_pos (by unfold inB; simp; omega), Int.toNat_natCast, hn, if_pos rfl]
  · show rowSumQ (moreP st.P i t) np = k + 1
    rw [rowSumQ_more, if_pos hi, h.sum]
end Go.Proofs.YtelickcfodcmaaaGreatDoor

namespace Go.Proofs.YtelickcfodcmaaaGreatDoor
open Go.RowKit

structure NewP (w wr : World) (b : Nat) (a : Option Addr) (len cap : Nat) (gap : Int) (a' : Option Addr) (np cap' : Nat) (j : Nat) (vS : Value) : Prop where
  c0 : wr.cell? ⟨b, 0, none⟩ = some (.slice a len cap)
  c1 : wr.cell? ⟨b, 1, none⟩ = some (.int .i64 gap)
  c2 : wr.cell? ⟨b, 2, none⟩ = some (.slice a' np cap')
  c3 : wr.cell? ⟨b, 3, none⟩ = some vS
  c4 : wr.cell? ⟨b, 4, none⟩ = some (.int .i64 0)
  z3 : wr.frozen? ⟨b, 3, none⟩ = false
  z4 : wr.frozen? ⟨b, 4, none⟩ = false
  own : wr.ownsRow (b + 1) 23 1 vS j (List.replicate j (.slice none 0 0))
  below : Below w.heap.size w wr
theorem NewP.step {w wr w' : World} {b : Nat} {a : Option Addr} {len cap : Nat} {gap : Int} {a' : Option Addr} {np cap' : Nat} {j : Nat} {vS v' : Value} (h : NewP w wr b a len cap gap a' np cap' j vS) (hb : w.heap.size ≤ b)
    (ho : w'.ownsRow (b + 1) 23 1 v' (j + 1) (List.replicate j (.slice none 0 0) ++ [.slice none 0 0])) (hg : (wr.alloc (.cells #[.slice none 0 0] 23)).grownBy w' vS.ownBlock) :
    NewP w (w'.setCell ⟨b, 3, none⟩ v') b a len cap gap a' np cap' (j + 1) v' ∧ w'.cell? ⟨b, 3, none⟩ = some vS ∧ w'.frozen? ⟨b, 3, none⟩ = false := by
  have hB := b1 wr (.cells #[.slice none 0 0] 23)
  have lb : b < wr.heap.size := ltCell h.c0
  have hk : w'.heap[b]? = (wr.alloc (.cells #[.slice none 0 0] 23)).heap[b]? := hg.block b (by have := hB.size; omega) (fun e => by have := (h.own.lt b e.symm).1; omega)
  have cc : ∀ o u, wr.cell? ⟨b, o, none⟩ = some u → w'.cell? ⟨b, o, none⟩ = some u := fun o u hu => (World.cell?_of_block (w := wr.alloc (.cells #[.slice none 0 0] 23)) (w' := w') (a := ⟨b, o, none⟩) hk).trans (cellLater hB hu)
  have zz : ∀ o u, wr.cell? ⟨b, o, none⟩ = some u → wr.frozen? ⟨b, o, none⟩ = false → w'.frozen? ⟨b, o, none⟩ = false := fun o u hu hz => (World.frozen?_of_block (w := wr.alloc (.cells #[.slice none 0 0] 23)) (w' := w') (a := ⟨b, o, none⟩) hk).trans ((hB.frozen (ltCell hu)).trans hz)
  refine ⟨⟨(cell_set_ne (by decide)).trans (cc 0 _ h.c0), (cell_set_ne (by decide)).trans (cc 1 _ h.c1), (cell_set_ne (by decide)).trans (cc 2 _ h.c2), World.cell?_setCell_same _ _ _ (cc 3 _ h.c3), (cell_set_ne (by decide)).trans (cc 4 _ h.c4), by rw [World.frozen?_setCell]; exact zz 3 _ h.c3 h.z3, by rw [World.frozen?_setCell]; exact zz 4 _ h.c4 h.z4, ?_, ?_⟩, cc 3 _ h.c3, zz 3 _ h.c3 h.z3⟩
  · rw [List.replicate_succ']
    exact ownsRow_setCell_below ho (Nat.lt_succ_self _) _
  · exact ((Below.join h.below (Nat.le_refl _) hB).grown hg (by have := h.below.size; have := hB.size; omega) (fun k hk2 => by have := (h.own.lt k hk2).1; omega)).setCell (p := ⟨b, 3, none⟩) hb _

set_option maxRecDepth 20000 in
set_option maxHeartbeats 4000000 in
theorem l2new_any (a : Option Addr) (len cap : Nat) (gap : Int) (a' : Option Addr) (np cap' : Nat) (w : World) (hn : np ≤ 5) :
    Calls Tryz.prog 90 #[.agg #[.slice a len cap, .int .i64 gap, .slice a' np cap']] w fun e w' => (∃ gR c nc, e = .returned (.pointer (some ⟨w.heap.size + 1, 0, none⟩)) ∧ LP w.heap.size w' (w.heap.size + 1) gR a len cap gap a' np cap' c nc (fun _ => .slice none 0 0) (fun _ => ⟨0, fun _ => 0⟩) 0) ∧ Below w.heap.size w w' := by
  obtain ⟨i0, hi, hz0, hz1, hz2⟩ := info_parts Tryz.infoRow
  obtain ⟨y0, y1, y2⟩ := new3 w (.slice a len cap) (.int .i64 gap) (.slice a' np cap') 26
  go_enter Tryz.func90, Tryz.ntmps90
  go_wp2
  have hN := b2 w (.cells #[.slice a len cap, .int .i64 gap, .slice a' np cap'] 26) (.cells #[.slice a len cap, .int .i64 gap, .slice a' np cap', .slice none 0 0, .int .i64 0] 150)
  have hTb := Go.heap_alloc_new (w.alloc (.cells #[.slice a len cap, .int .i64 gap, .slice a' np cap'] 26)) (.cells #[.slice a len cap, .int .i64 gap, .slice a' np cap', .slice none 0 0, .int .i64 0] 150)
  rw [World.size_alloc] at hTb
  refine nameW fun V hV => ?_
  rw [← hV] at hTb hN
  have e0 := cell_of_row V (w.heap.size + 1) 0 _ _ _ hTb
  have e1 := cell_of_row V (w.heap.size + 1) 1 _ _ _ hTb
  have e2 := cell_of_row V (w.heap.size + 1) 2 _ _ _ hTb
  have e3 := cell_of_row V (w.heap.size + 1) 3 _ _ _ hTb
  have e4 := cell_of_row V (w.heap.size + 1) 4 _ _ _ hTb
  simp at e0 e1 e2 e3 e4
  have z3 : V.frozen? ⟨w.heap.size + 1, 3, none⟩ = false := by rw [hV]; rw [World.frozen?_alloc_at _ _ _ _ (by simp)]
  have z4 : V.frozen? ⟨w.heap.size + 1, 4, none⟩ = false := by rw [hV]; rw [World.frozen?_alloc_at _ _ _ _ (by simp)]
  clear hV hTb y0 y1 y2
  go_loopw [10] (fun jj wr => ∃ (j : Nat) (vS : Value), j ≤ np ∧ jj = .int .i64 j ∧ NewP w wr (w.heap.size + 1) a len cap gap a' np cap' j vS) (fun jj _ => np - (intOf jj).toNat)
  case atStart => exact ⟨0, .slice none 0 0, Nat.zero_le _, rfl, e0, e1, e2, e3, e4, z3, z4, World.ownsRow_nil _ _ _ _, hN⟩
  case round =>
    obtain ⟨j, vS, hj, rfl, hP⟩ := hrel
    by_cases hlt : j < np
    · have hj' : (j : Int) < (np : Int) := by omega
      have c3 := hP.c3
      have lb := ltCell c3
      dsimp only at lb
      go_wp2_with (at_builtin; refine wpList_append_own _ rfl _ _ 28 rfl (w.heap.size + 1 + 1) 23 i0 _ 1 24 Tryz.underlying28 hi hz0 hz1 hz2 rfl (by decide) _ _ _ rfl (hP.own.alloc _) ⟨wr.heap.size, 0, none⟩ 1 1 [.slice none 0 0] rfl rfl cells1_lie (fun u hu => by simp at hu; subst hu; rfl) (by unfold maxLen; omega) (by omega) (by simp only [World.size_alloc]; omega) ?_)
      intro v' w6 hown' hgrow _
      obtain ⟨hP2, m3, mz⟩ := hP.step (by omega) hown' hgrow
      have hform := Joins.ownsRow_form hown' (by omega)
      obtain ⟨gn, cn, rfl⟩ := hform
      have hP2' : Hid _ := hP2
      clear hP2 hown' hgrow c3
      go_wp2
      go_roundw
      case rel => exact ⟨j + 1, _, by omega, by go_num, hP2'.out⟩
      case measure => simp [intOf]; omega
    · obtain rfl : j = np := by omega
      go_wp2
      go_ret
      refine ⟨?_, hP.below⟩
      have hb : w.heap.size ≤ w.heap.size + 1 := by omega
      rcases hP.own.2 with ⟨e, h0⟩ | ⟨gR, cp, cur, e, hgb, hgg, _⟩
      · subst h0
        exact ⟨w.heap.size, none, 0, rfl, ⟨hP.c0, hP.c1, hP.c2, by rw [hP.c3, e], hP.c4⟩, hP.z4, fun k hk => by omega, fun k hk => by omega, fun k _ hk => by omega, fun k hk => by omega, by omega, hb, Nat.le_refl _⟩
      · have ho := hP.own
        rw [e] at ho
        refine ⟨gR, some ⟨gR, 0, none⟩, cp, rfl, ⟨hP.c0, hP.c1, hP.c2, by rw [hP.c3, e], hP.c4⟩, hP.z4, fun k hk => ⟨rfl, ?_, ho.frozenAt k⟩, fun k hk => World.ownsRow_nil _ _ _ _, fun k m _ _ _ => Or.inl rfl, fun k hk => ⟨by simp [Value.ownBlock], by simp [Value.ownBlock]⟩, by omega, hb, by omega⟩
        rw [ho.cellAt k (by omega), List.getElem?_replicate, if_pos hk]
end Go.Proofs.YtelickcfodcmaaaGreatDoor

namespace Go.Proofs.YtelickcfodcmaaaGreatDoor
open Go.RowKit

noncomputable def soonL : Code := ((Tryz.f3.body.bind (loopAtC 15)).getD .skip)
set_option maxRecDepth 20000 in
set_option maxHeartbeats 8000000 in
theorem soon_loop {s0 s1 s2 s3 s4 s5 s7 s8 s10 s11 s12 s13 s14 s15 s16 s17 s18 s19 s20 s21 s22 s23 s24 s25 s26 s27 s28 s29 s30 s31 s32 s33 s34 s35 s36 s37 s38 s39 s40 s41 s42 s43 s44 s45 s46 s47 s48 s49 s50 s51 s52 s53 s54 s55 s56 s57 s58 s59 s60 s61 s62 s63 s64 s68 s69 s70 s71 s72 s73 s74 s75 s76 s77 s78 s79 s80 s81 s82 s83 s84 s85 s86 s87 s88 s89 s90 s91 s92 s93 s94 s95 s96 s97 s98 s99 s100 s101 s102 s103 s104 s105 s106 s107 s108 s109 s110 s111 s112 s113 s114 s115 s116 s117 s118 s119 s120 : Value} (bp bq np : Nat) (c : Option Addr) (nc : Nat) (P : Nat → RowD) (c3 : Option Addr) (nc3 : Nat) (P3 : Nat → RowD) (W : World) (K : Act → World → Prop) (Q : Exit → Act → World → Prop)
    (hK : ∀ (u4 u10 u11 u67 u68 u69 u70 u71 u72 u73 u74 u75 u76 u77 u78 u79 u80 u81 u82 u83 u84 u85 u86 u87 u88 u89 u90 u91 u92 u93 u94 u95 u96 u97 u98 u99 u100 u101 u102 u103 u104 u105 u106 u107 u108 u109 u110 u111 u112 : Value) (wr : World), Below W.heap.size W wr → K ⟨(s0 :: s1 :: s2 :: s3 :: u4 :: s5 :: .pointer (some ⟨bp, 0, none⟩) :: s7 :: s8 :: .pointer (some ⟨bq, 0, none⟩) :: u10 :: u11 :: s12 :: s13 :: s14 :: s15 :: s16 :: s17 :: s18 :: s19 :: s20 :: s21 :: s22 :: s23 :: s24 :: s25 :: s26 :: s27 :: s28 :: s29 :: s30 :: s31 :: s32 :: s33 :: s34 :: s35 :: s36 :: s37 :: s38 :: s39 :: s40 :: s41 :: s42 :: s43 :: s44 :: s45 :: s46 :: s47 :: s48 :: s49 :: s50 :: s51 :: s52 :: s53 :: s54 :: s55 :: s56 :: s57 :: s58 :: s59 :: s60 :: s61 :: s62 :: s63 :: s64 :: (.slice c np nc) :: .int .i64 np :: u67 :: u68 :: u69 :: u70 :: u71 :: u72 :: u73 :: u74 :: u75 :: u76 :: u77 :: u78 :: u79 :: u80 :: u81 :: u82 :: u83 :: u84 :: u85 :: u86 :: u87 :: u88 :: u89 :: u90 :: u91 :: u92 :: u93 :: u94 :: u95 :: u96 :: u97 :: u98 :: u99 :: u100 :: u101 :: u102 :: u103 :: u104 :: u105 :: u106 :: u107 :: u108 :: u109 :: u110 :: u111 :: u112 :: s113 :: s114 :: s115 :: s116 :: s117 :: s118 :: s119 :: s120 :: []).toArray, []⟩ wr)
    (hnp : np ≤ 5) (h10 : ∀ j, j < np → (P j).n ≤ 10) (hc : W.cell? ⟨bp, 0, none⟩ = some (.slice c np nc)) (hc3 : W.cell? ⟨bq, 2, none⟩ = some (.slice c3 np nc3)) (hP : IsRows 0 W.heap.size W c np P) (hP3 : IsRows 0 W.heap.size W c3 np P3)
    (hle : ∀ j, j < np → (P3 j).n = (P j).n ∧ ∀ m, m < (P j).n → (P3 j).s m ≤ (P j).s m) :
    Code.wp Tryz.prog (Code.loop soonL) (Exit.inBlock 0 (Exit.then K Q)) ⟨(s0 :: s1 :: s2 :: s3 :: s4 :: s5 :: .pointer (some ⟨bp, 0, none⟩) :: s7 :: s8 :: .pointer (some ⟨bq, 0, none⟩) :: s10 :: s11 :: s12 :: s13 :: s14 :: s15 :: s16 :: s17 :: s18 :: s19 :: s20 :: s21 :: s22 :: s23 :: s24 :: s25 :: s26 :: s27 :: s28 :: s29 :: s30 :: s31 :: s32 :: s33 :: s34 :: s35 :: s36 :: s37 :: s38 :: s39 :: s40 :: s41 :: s42 :: s43 :: s44 :: s45 :: s46 :: s47 :: s48 :: s49 :: s50 :: s51 :: s52 :: s53 :: s54 :: s55 :: s56 :: s57 :: s58 :: s59 :: s60 :: s61 :: s62 :: s63 :: s64 :: (.slice c np nc) :: .int .i64 np :: .int .i64 0 :: s68 :: s69 :: s70 :: s71 :: s72 :: s73 :: s74 :: s75 :: s76 :: s77 :: s78 :: s79 :: s80 :: s81 :: s82 :: s83 :: s84 :: s85 :: s86 :: s87 :: s88 :: s89 :: s90 :: s91 :: s92 :: s93 :: s94 :: s95 :: s96 :: s97 :: s98 :: s99 :: s100 :: s101 :: s102 :: s103 :: s104 :: s105 :: s106 :: s107 :: s108 :: s109 :: s110 :: s111 :: s112 :: s113 :: s114 :: s115 :: s116 :: s117 :: s118 :: s119 :: s120 :: []).toArray, []⟩ W := by
  conv => arg 2; arg 1; whnf
  have hK' : Hid _ := hK
  have hle' : Hid _ := hle
  clear hK hle
  go_loopw [67] (fun c67 wr => ∃ i : Nat, i ≤ np ∧ c67 = .int .i64 i ∧ Below W.heap.size W wr) (fun c67 _ => np - (intOf c67).toNat)
  case atStart => exact ⟨0, Nat.zero_le _, rfl, Below.refl _ _⟩
  case round =>
    obtain ⟨i, hi, rfl, hB⟩ := hrel
    by_cases hlt : i < np
    · have hlt' : (i : Int) < (np : Int) := by omega
      have hi0 : (0 : Int) ≤ (i : Int) := by omega
      have hPi := h10 i hlt
      obtain ⟨hn3, hs3⟩ := hle'.out i hlt
      obtain ⟨br, ro, lr, lrc, rfl, _, hbr, r0, hin, _⟩ := hP i hlt
      obtain ⟨br3, ro3, lr3, lrc3, rfl, _, hbr3, r3, hin3, _⟩ := hP3 i hlt
      rw [hn3] at r3 hin3
      have k0 := cellLater hB hc
      have k1 := cellLater hB hc3
      have k2 := cellLater hB r0
      have k3 := cellLater hB r3
      have hs3' : Hid _ := hs3
      have hin' : Hid _ := hin
      have hin3' : Hid _ := hin3
      clear hn3 hs3 hin hin3
      go_wp2
      go_region_held3 (fun w' => w'.cell? ⟨bp, 0, none⟩ = some (.slice (some ⟨br, ro, none⟩) np nc) ∧ w'.cell? ⟨bq, 2, none⟩ = some (.slice (some ⟨br3, ro3, none⟩) np nc3) ∧ w'.cell? ⟨br, ro + i, none⟩ = some (.slice lr (P i).n lrc) ∧ w'.cell? ⟨br3, ro3 + i, none⟩ = some (.slice lr3 (P i).n lrc3)) (first | exact ⟨k0, k1, k2, k3⟩ | go_keep) (fail)
      have hBd := Below.join hB (Nat.le_refl _) ((Below.refl wr.heap.size wr).drew)
      have k0' := cellLater hBd hc
      have k2' := cellLater hBd r0
      go_wp2
      clear k0 k1 k2 k3 k0' k2'
      go_loopw [90] (fun c90 wq => ∃ m : Nat, m ≤ (P i).n ∧ c90 = .int .i64 m ∧ Below W.heap.size W wq) (fun c90 _ => (P i).n - (intOf c90).toNat)
      case atStart => exact ⟨0, Nat.zero_le _, rfl, hBd⟩
      case round =>
        clear hBd hB
        obtain ⟨m, hm, rfl, hB⟩ := hrel
        by_cases hmlt : m < (P i).n
        · have hmlt' : (m : Int) < ((P i).n : Int) := by omega
          have hm0 : (0 : Int) ≤ (m : Int) := by omega
          obtain ⟨b4, o4, rfl, _, hb4, r4⟩ := hin'.out m hmlt
          obtain ⟨b5, o5, rfl, _, hb5, r5⟩ := hin3'.out m hmlt
          have hle1 : ¬ ((P i).s m < (P3 i).s m) := by have := hs3'.out m hmlt; omega
          have k0 := cellLater hB hc
          have k1 := cellLater hB hc3
          have k2 := cellLater hB r0
          have k3 := cellLater hB r3
          have k4 := cellLater hB r4
          have k5 := cellLater hB r5
          go_wp2
          go_region_held3 (fun w' => w'.cell? ⟨bp, 0, none⟩ = some (.slice (some ⟨br, ro, none⟩) np nc) ∧ w'.cell? ⟨bq, 2, none⟩ = some (.slice (some ⟨br3, ro3, none⟩) np nc3) ∧ w'.cell? ⟨br, ro + i, none⟩ = some (.slice (some ⟨b4, o4, none⟩) (P i).n lrc) ∧ w'.cell? ⟨br3, ro3 + i, none⟩ = some (.slice (some ⟨b5, o5, none⟩) (P i).n lrc3) ∧ w'.cell? ⟨b4, o4 + m, none⟩ = some (.int .i64 ((P i).s m)) ∧ w'.cell? ⟨b5, o5 + m, none⟩ = some (.int .i64 ((P3 i).s m))) (first | exact ⟨k0, k1, k2, k3, k4, k5⟩ | go_keep) (fail)
          go_wp2
          go_roundw
          case rel => exact ⟨m + 1, by omega, rfl, Below.join hB (Nat.le_refl _) ((Below.refl _ _).drew)⟩
          case measure => simp only [intOf]; omega
        · obtain rfl : m = (P i).n := by omega
          go_wp2
          go_roundw
          case rel => exact ⟨i + 1, by omega, rfl, hB⟩
          case measure => simp only [intOf]; omega
    · obtain rfl : i = np := by omega
      go_wp2
      apply hK'.out
      exact hB
end Go.Proofs.YtelickcfodcmaaaGreatDoor

namespace Go.Proofs.YtelickcfodcmaaaGreatDoor
open Go.RowKit

theorem lie5 {W : World} {n : Nat} {x y z p q : Value} {t : TypeId} (hn : W.heap.size = n) : ∀ (j : Nat) (u : Value), [x, y, z, p, q][j]? = some u → (W.alloc (.cells #[x, y, z, p, q] t)).cell? ((⟨n, 0, none⟩ : Addr).add j) = some u := by
  subst hn
  exact cells5_lie
noncomputable def lineTrs : Code := ((Tryz.f19.body.bind (loopAtC 8)).getD .skip)
/-- a line in the making, its tracks done -/
structure TrsI (w0 : World) (b bl N k lg : Nat) (tr : List Int) (gp : Int) (vt : Value) (w : World) (g kC : Nat) (L : List TrV) (vT : Value) (W : World) : Prop where
  sum : (L.map fun x => x.1.legs.length).sum + g = lg
  len : L.length ≤ 5
  more : kC ≤ k + 30 + 20 * L.length + 10 * (L.map fun x => x.1.legs.length).sum
  dr : ∀ x ∈ L, DrawnT N x.1
  box : LBox (bl + 1) bl W tr gp L vt vT
  cur : Cur w0 b kC W
  mid : Mid b (b + 1) w W
  room : Room w.heap.size 3 W
theorem TrsI.step {w0 : World} {b bl N k lg : Nat} {tr : List Int} {gp : Int} {vt : Value} {w : World} {g kC : Nat} {L : List TrV} {vT : Value} {wr : World} {bt k0 : Nat} {y1 y2 y3 : Int} {v3 : World} {g' kk k3 : Nat} {up at' sum : Int} {t : TrL} {lv : Value} {W WD W1 : World} {d : Int} {v' : Value} {o : Obj}
    (hT : TrsI w0 b bl N k lg tr gp vt w g kC L vT wr) (hM3 : Mid b (b + 1) wr v3) (hI : LegsI w0 b bt N kC g k0 y1 y2 y3 v3 g' kk k3 up at' sum t lv W) (hv3 : bt = v3.heap.size) (hbl : b < bl) (hblw : w.heap.size < bl) (hbw : b < w.heap.size) (hN : 0 ≤ y1 ∧ y1 < N) (hy2 : 0 ≤ y2 ∧ y2 ≤ 40) (hy3 : 0 ≤ y3 ∧ y3 ≤ 3) (hL5 : L.length < 5) (hl0 : 0 < t.legs.length)
    (hMD : Mid b (b + 1) v3 WD) (hTD : TBox (bt + 1) bt WD { t with due := d } lv) (hCD : Cur w0 b (kk + 2 + 2) WD) (hd : 0 ≤ d ∧ d ≤ 1000)
    (ho : W1.ownsRow (bl + 1) 72 5 v' (L.length + 1) (trCells L ++ [.int .i64 t.frm, .int .i64 t.ready, .int .i64 d, .int .i64 t.weight, lv])) (hgr : (WD.alloc o).grownBy W1 vT.ownBlock) (hloc : v'.ownBlock = vT.ownBlock ∨ v'.ownBlock = some (WD.alloc o).heap.size) :
    TrsI w0 b bl N k lg tr gp vt w g' (kk + 2 + 2) (L ++ [({ t with due := d }, lv)]) v' (W1.setCell ⟨bl, 2, none⟩ v') := by
  have hLB3 := hT.box.mid hM3 hbl
  have hbl3 : bl < v3.heap.size := ltCell hLB3.c0
  have hMA : Mid b (b + 1) v3 (WD.alloc o) := hMD.trans (Mid.ofBelow (b1 WD o) (by have := hCD.lt; omega))
  have hLBA := hLB3.mid hMA hbl
  have hTA := hTD.later (b1 WD o)
  have hgl := hI.gl
  have hsum := hT.sum
  have hkC := hT.more
  have hkk := hI.kk
  have hsame := hI.same
  have hlen : ((L ++ [({ t with due := d }, lv)]).map fun x : TrV => x.1.legs.length).sum = (L.map fun x => x.1.legs.length).sum + t.legs.length := by simp
  have hlen2 : (L ++ [({ t with due := d }, lv)]).length = L.length + 1 := by simp
  have hrow : ∀ j, vT.ownBlock = some j → bl + 1 ≤ j := fun j hj => (hLB3.own.trs.lt (Or.inl hj)).1
  have hMw : Mid b (b + 1) w (WD.alloc o) := (hT.mid.trans hM3).trans hMA
  refine ⟨by rw [hlen]; omega, by rw [hlen2]; omega, by rw [hlen, hlen2]; omega, fun x hx => ?_, hLBA.snoc (t := { t with due := d }) (lv := lv) ho ?_ (fun j hj => ?_) hgr hloc, ?_, ?_, ?_⟩
  · rcases List.mem_append.1 hx with hx | hx
    · exact hT.dr x hx
    · rw [List.mem_singleton] at hx
      subst hx
      exact ⟨by show 0 ≤ t.frm ∧ t.frm < N; omega, by show 0 ≤ t.ready ∧ t.ready ≤ 40; omega, hd, by show 1 ≤ t.weight ∧ t.weight ≤ 4; omega, hl0, ⟨at', by show Walk N t.frm t.legs at'; rw [hsame.1]; exact hI.walk⟩⟩
  · exact Joins.ownsRow_le hTA.legs (by omega)
  · have hj1 := (World.ownsRow.lt hTA.legs j hj).1
    refine ⟨fun e => ?_, fun e => ?_, fun x hx e => ?_⟩
    · have := (hLB3.own.ints.lt j e).2; omega
    · have := (hLB3.own.trs.lt (Or.inl e)).2; omega
    · have := (hLB3.own.trs.lt (Or.inr ⟨x, hx, e⟩)).2; omega
  · exact ((hCD.later (b1 WD o)).grown hgr (fun j hj => by have := hrow j hj; omega)).set _ hbl _
  · exact (hMw.grown hgr (fun j hj => by have := hrow j hj; omega) (by omega)).setNew _ (by show w.heap.size ≤ bl; omega) (by omega) _
  · exact ((((hT.room.keep hM3).keep hMA)).grown hgr (fun j hj e => by have := hrow j hj; omega)).set _ _
set_option maxRecDepth 20000 in
set_option maxHeartbeats 8000000 in
theorem line_trains {s1 s2 s3 s4 s6 s9 s10 s11 s12 s13 s14 s15 s16 s17 s18 s19 s20 s21 s22 s23 s24 s25 s26 s27 s28 s29 s30 s31 s32 s33 s34 s35 s36 s37 s38 s39 s40 s41 s42 s43 s44 s45 s46 s47 s48 s49 s50 s51 s52 s53 s54 s55 s56 s57 s58 s59 s60 s61 s62 s63 s64 s65 s66 s67 s68 s69 s70 s71 s72 s73 s74 s75 s76 s77 s78 s79 s80 s81 s82 s83 s84 s85 s86 s87 s88 s89 s90 s91 s92 s93 s94 s95 s96 s97 s98 s99 s100 s101 s102 s103 s104 s105 s106 s107 s108 s109 s110 s111 s112 s113 s114 s115 s116 s117 s118 s119 s120 s121 s122 s123 s124 s125 s126 s127 s128 s129 : Value} (w0 : World) (b bl N k lg g0 kC0 : Nat) (tr : List Int) (gp : Int) (vt : Value) (w w3 : World) (K : Act → World → Prop) (Q : Exit → Act → World → Prop)
    (hK : ∀ (u9 u10 u11 u12 u13 u14 u44 u45 u46 u47 u48 u49 u50 u51 u52 u53 u54 u55 u56 u57 u58 u59 u60 u61 u62 u63 u64 u65 u66 u67 u68 u69 u70 u71 u72 u73 u74 u75 u76 u77 u78 u79 u80 u81 u82 u83 u84 u85 u86 u87 u88 u89 u90 u91 u92 u93 u94 u95 u96 u97 u98 u99 u100 u101 u102 u103 u104 u105 u106 u107 u108 u109 u110 u111 u112 u113 u114 u115 u116 u117 u118 u119 u120 u121 u122 u123 u124 u125 u126 u127 u128 c8 : Value) (g kC : Nat) (L : List TrV) (vT : Value) (W : World), TrsI w0 b bl N k lg tr gp vt w g kC L vT W → K ⟨(.pointer (some ⟨b, 0, none⟩) :: s1 :: s2 :: s3 :: s4 :: .pointer (some ⟨bl, 0, none⟩) :: s6 :: .int .i64 N :: c8 :: u9 :: u10 :: u11 :: u12 :: u13 :: u14 :: s15 :: s16 :: s17 :: s18 :: s19 :: s20 :: s21 :: s22 :: s23 :: s24 :: s25 :: s26 :: s27 :: s28 :: s29 :: s30 :: s31 :: s32 :: s33 :: s34 :: s35 :: s36 :: s37 :: s38 :: s39 :: s40 :: s41 :: s42 :: s43 :: u44 :: u45 :: u46 :: u47 :: u48 :: u49 :: u50 :: u51 :: u52 :: u53 :: u54 :: u55 :: u56 :: u57 :: u58 :: u59 :: u60 :: u61 :: u62 :: u63 :: u64 :: u65 :: u66 :: u67 :: u68 :: u69 :: u70 :: u71 :: u72 :: u73 :: u74 :: u75 :: u76 :: u77 :: u78 :: u79 :: u80 :: u81 :: u82 :: u83 :: u84 :: u85 :: u86 :: u87 :: u88 :: u89 :: u90 :: u91 :: u92 :: u93 :: u94 :: u95 :: u96 :: u97 :: u98 :: u99 :: u100 :: u101 :: u102 :: u103 :: u104 :: u105 :: u106 :: u107 :: u108 :: u109 :: u110 :: u111 :: u112 :: u113 :: u114 :: u115 :: u116 :: u117 :: u118 :: u119 :: u120 :: u121 :: u122 :: u123 :: u124 :: u125 :: u126 :: u127 :: u128 :: s129 :: []).toArray, []⟩ W)
    (hk : k ≤ 1000) (hN : 2 ≤ N ∧ N ≤ 5) (hlg : lg ≤ 9) (hbl : b < bl) (hblw : w.heap.size < bl) (hbw : b < w.heap.size)
    (hI : TrsI w0 b bl N k lg tr gp vt w g0 kC0 [] (.slice none 0 0) w3) :
    Code.wp Tryz.prog (Code.loop lineTrs) (Exit.inBlock 2 (Exit.then K Q)) ⟨(.pointer (some ⟨b, 0, none⟩) :: s1 :: s2 :: s3 :: s4 :: .pointer (some ⟨bl, 0, none⟩) :: s6 :: .int .i64 N :: .int .i64 g0 :: s9 :: s10 :: s11 :: s12 :: s13 :: s14 :: s15 :: s16 :: s17 :: s18 :: s19 :: s20 :: s21 :: s22 :: s23 :: s24 :: s25 :: s26 :: s27 :: s28 :: s29 :: s30 :: s31 :: s32 :: s33 :: s34 :: s35 :: s36 :: s37 :: s38 :: s39 :: s40 :: s41 :: s42 :: s43 :: s44 :: s45 :: s46 :: s47 :: s48 :: s49 :: s50 :: s51 :: s52 :: s53 :: s54 :: s55 :: s56 :: s57 :: s58 :: s59 :: s60 :: s61 :: s62 :: s63 :: s64 :: s65 :: s66 :: s67 :: s68 :: s69 :: s70 :: s71 :: s72 :: s73 :: s74 :: s75 :: s76 :: s77 :: s78 :: s79 :: s80 :: s81 :: s82 :: s83 :: s84 :: s85 :: s86 :: s87 :: s88 :: s89 :: s90 :: s91 :: s92 :: s93 :: s94 :: s95 :: s96 :: s97 :: s98 :: s99 :: s100 :: s101 :: s102 :: s103 :: s104 :: s105 :: s106 :: s107 :: s108 :: s109 :: s110 :: s111 :: s112 :: s113 :: s114 :: s115 :: s116 :: s117 :: s118 :: s119 :: s120 :: s121 :: s122 :: s123 :: s124 :: s125 :: s126 :: s127 :: s128 :: s129 :: []).toArray, []⟩ w3 := by
  conv => arg 2; arg 1; whnf
  have hK' : Hid _ := hK
  clear hK
  go_loopw [8] (fun c8 wr => ∃ (g kC : Nat) (L : List TrV) (vT : Value), c8 = .int .i64 g ∧ TrsI w0 b bl N k lg tr gp vt w g kC L vT wr) (fun c8 _ => (intOf c8).toNat)
  case atStart => exact ⟨g0, kC0, [], _, rfl, hI⟩
  case round =>
    clear hI
    obtain ⟨g, kC, L, vT, rfl, hT⟩ := hrel
    have hsum := hT.sum
    have hkC := hT.more
    have hL5 := hT.len
    obtain ⟨aT, cT, rfl, _⟩ := hT.box.own.trs.trains (fun x hx => by
      have h1 : x.1.legs.length ≤ (L.map fun x => x.1.legs.length).sum := le_sum (List.mem_map.2 ⟨x, hx, rfl⟩)
      unfold maxLen; omega)
    have q2 := hT.box.c2
    by_cases hg : 0 < g ∧ L.length < 5
    · have hg1 : (0 : Int) < (g : Int) := by omega
      have hg2 : (L.length : Int) < 5 := by omega
      have hP1 := pick_any w0 b kC N wr (by omega) (by omega) hT.cur
      go_wp2_with (first | (go_at_call 21; with_reducible refine hP1.mono ?_; rintro _ v1 ⟨y1, rfl, hy10, hy11, hD1, hE1⟩; have hP2 := pick_any w0 b (kC + 2) 40 v1 (by omega) (by decide) hD1) | (go_at_call 21; with_reducible refine hP2.mono ?_; rintro _ v2 ⟨y2, rfl, hy20, hy21, hD2, hE2⟩; have hP3 := pick_any w0 b (kC + 2 + 2) 4 v2 (by omega) (by decide) hD2) | (go_at_call 21; with_reducible refine hP3.mono ?_; rintro _ v3 ⟨y3, rfl, hy30, hy31, hD3, hE3⟩))
      have hM3 := (hE1.trans hE2).trans hE3
      have hA3 := b1 v3 (.cells #[.int .i64 y1, .int .i64 y2, .int .i64 0, .int .i64 (1 + y3), .slice none 0 0] 72)
      have hTB3 : TBox (v3.heap.size + 1) v3.heap.size (v3.alloc (.cells #[.int .i64 y1, .int .i64 y2, .int .i64 0, .int .i64 (1 + y3), .slice none 0 0] 72)) ⟨y1, y2, 0, 1 + y3, []⟩ (.slice none 0 0) := by
        refine ⟨?_, ?_, ?_, ?_, ?_, ?_, World.ownsRow_nil _ _ _ _, by simp [Value.ownBlock]⟩
        all_goals simp
      have hb3 : b < v3.heap.size := hD3.lt
      have hMA3 : Mid b (b + 1) v3 (v3.alloc (.cells #[.int .i64 y1, .int .i64 y2, .int .i64 0, .int .i64 (1 + y3), .slice none 0 0] 72)) := Mid.ofBelow hA3 (by omega)
      have hRm3 : Room v3.heap.size 5 (v3.alloc (.cells #[.int .i64 y1, .int .i64 y2, .int .i64 0, .int .i64 (1 + y3), .slice none 0 0] 72)) := Room.lit v3 _ _ 5 (by simp)
      refine (pick_any w0 b (kC + 2 + 2 + 2) 2 _ (by omega) (by decide) (hD3.later hA3)).mono ?_
      rintro _ v4 ⟨y4, rfl, hy40, hy41, hD4, hE4⟩
      have hTB4 := hTB3.mid hE4 (by omega) (by omega)
      have hRm4 := hRm3.keep hE4
      have t0 := hTB4.c0
      have t1 := hTB4.c1
      dsimp only at t0 t1
      have hP5 := pick_any w0 b (kC + 2 + 2 + 2 + 2) 4 v4 (by omega) (by decide) hD4
      obtain ⟨bt, hbt0⟩ : ∃ bt, bt = v3.heap.size := ⟨_, rfl⟩
      rw [← hbt0] at hTB4 hRm4 hb3 t0 t1 ⊢
      have hbt : Hid (bt = v3.heap.size) := hbt0
      have hMv4 := hMA3.trans hE4
      clear hbt0 hTB3 hP1 hP2 hP3 hD1 hD2 hD3 hE1 hE2 hE3 hA3 hMA3 hE4 hRm3 q2
      go_wp2_with (go_at_call 21; with_reducible refine hP5.mono ?_; rintro _ v5 ⟨y5, rfl, hy50, hy51, hD5, hE5⟩)
      have hTB5 := hTB4.mid hE5 (by omega) hb3
      have hRm5 := hRm4.keep hE5
      have hMv5 := hMv4.trans hE5
      obtain ⟨k0, hk0⟩ : ∃ k0 : Nat, 1 + y5 = (k0 : Int) := ⟨(1 + y5).toNat, by omega⟩
      have hk04 : 1 ≤ k0 ∧ k0 ≤ 4 := by omega
      have hy1N : 0 ≤ y1 ∧ y1 < N := by omega
      clear hP5 hTB4 hD4 hE5 hMv4 t0 t1
      rw [hk0]
      rename_i Kz az
      refine line_legs w0 b bt N kC g k0 y1 y2 y3 y4 v3 v5 Kz _ ?_ (by omega) hN (by omega) hk04 hb3 hbt.out ⟨hTB5, ⟨rfl, rfl, rfl⟩, by simp, by simp, Walk.nil, hy1N, by omega, by dsimp only [List.length_nil]; omega, hD5, by dsimp only [List.length_nil]; omega, hMv5, hRm5⟩
      intro u14 u70 u71 u72 u73 u74 u75 u76 u77 u78 u79 u80 u81 u82 u83 u84 u85 u86 u87 u88 u89 u90 u91 u92 u93 u94 u95 u96 u97 u98 u99 u100 u101 u102 u103 u104 u105 u106 u107 u108 u109 u110 c8 c10 c11 c12 c13 g' kk k3 up at' sum t lv W hI hlen e8 e12
      subst e8
      subst e12
      have hsm := hI.sum
      have hgl := hI.gl
      have hkl := hI.kl
      have hkk := hI.kk
      obtain ⟨la, lc, rfl, _⟩ := OwnLegs.legs hI.tb.legs
      have hLB3 := hT.box.mid hM3 hbl
      have hbl3 : bl < v3.heap.size := ltCell hLB3.c0
      obtain ⟨i0, ii, iz0, iz1, iz2⟩ := info3 Tryz.infoTrain
      have hP8 := pick_any w0 b kk 20 W (by omega) (by decide) hI.cur
      refine az _ _ ?_
      clear az hRm5 hMv5 hTB5 hD5
      go_wp2_with (go_at_call 21; with_reducible refine hP8.mono ?_; rintro _ v8 ⟨y8, rfl, hy80, hy81, hD8, hE8⟩)
      refine (pick_any w0 b (kk + 2) 8 v8 (by omega) (by decide) hD8).mono ?_
      rintro _ v9 ⟨y9, rfl, hy90, hy91, hD9, hE9⟩
      have hTB9 := (hI.tb.mid hE8 (by omega) hb3).mid hE9 (by omega) hb3
      have hMv9 := (hI.mid.trans hE8).trans hE9
      obtain ⟨_, _, z2⟩ := ((hI.room.keep hE8).keep hE9) 2 (by omega)
      have t2 := hTB9.c2
      have e2 := (hTB9.due (sum + y8 - y9)).c2
      have hv3b : v3.heap.size ≤ bt ∧ b ≤ v3.heap.size := by have := hbt.out; omega
      have hblt : bl + 1 ≤ v9.heap.size := by have := ltCell t2; dsimp only at this; omega
      by_cases hd : sum + y8 - y9 < 0
      · have hTD := (hTB9.due (sum + y8 - y9)).due 0
        have hMD := (hMv9.setNew ⟨bt, 2, none⟩ hv3b.1 hv3b.2 (.int .i64 (sum + y8 - y9))).setNew ⟨bt, 2, none⟩ hv3b.1 hv3b.2 (.int .i64 0)
        have hCD := (hD9.set ⟨bt, 2, none⟩ hb3 (.int .i64 (sum + y8 - y9))).set ⟨bt, 2, none⟩ hb3 (.int .i64 0)
        have hLD := hLB3.mid hMD hbl
        have f0 := hTD.c0
        have f1 := hTD.c1
        have f2 := hTD.c2
        have f3 := hTD.c3
        have f4 := hTD.c4
        have q2 := hLD.c2
        dsimp only at f0 f1 f2 f3 t2 e2
        go_wp2_with (at_builtin; refine wpList_append_own_at _ rfl _ _ 24 rfl (bl + 1) 72 i0 _ 5 56 Tryz.underlying24 ii iz0 iz1 iz2 rfl (by decide) _ _ _ rfl (hLD.later (b1 _ _)).own.trs.row ⟨v9.heap.size, 0, none⟩ 1 1 [.int .i64 t.frm, .int .i64 t.ready, .int .i64 0, .int .i64 t.weight, .slice la t.legs.length lc] rfl rfl (lie5 (by simp only [World.size_setCell])) (TrV_one (t := { t with due := 0 })) (by unfold maxLen; omega) (by omega) (by simp only [World.size_alloc, World.size_setCell]; omega) ?_)
        intro v' W1 hown1 hgr1 _ hloc1
        obtain ⟨gn, cn, rfl⟩ := Joins.ownsRow_form hown1 (by omega)
        obtain ⟨m2, z2'⟩ := (hLD.later (b1 _ _)).grown2 hgr1
        clear f0 f1 f2 f3 f4 q2 t2 e2 z2
        go_wp2
        go_roundw
        case rel => exact ⟨g', kk + 2 + 2, _, _, rfl, hT.step hM3 hI hbt.out hbl hblw hbw hy1N (by omega) (by omega) (by omega) hlen hMD hTD hCD ⟨Int.le_refl _, by decide⟩ hown1 hgr1 (by simpa using hloc1)⟩
        case measure => simp only [intOf]; omega
      · have hTD := hTB9.due (sum + y8 - y9)
        have hMD := hMv9.setNew ⟨bt, 2, none⟩ hv3b.1 hv3b.2 (.int .i64 (sum + y8 - y9))
        have hCD := hD9.set ⟨bt, 2, none⟩ hb3 (.int .i64 (sum + y8 - y9))
        have hLD := hLB3.mid hMD hbl
        have f0 := hTD.c0
        have f1 := hTD.c1
        have f2 := hTD.c2
        have f3 := hTD.c3
        have f4 := hTD.c4
        have q2 := hLD.c2
        dsimp only at f0 f1 f2 f3 t2 e2
        go_wp2_with (at_builtin; refine wpList_append_own_at _ rfl _ _ 24 rfl (bl + 1) 72 i0 _ 5 56 Tryz.underlying24 ii iz0 iz1 iz2 rfl (by decide) _ _ _ rfl (hLD.later (b1 _ _)).own.trs.row ⟨v9.heap.size, 0, none⟩ 1 1 [.int .i64 t.frm, .int .i64 t.ready, .int .i64 (sum + y8 - y9), .int .i64 t.weight, .slice la t.legs.length lc] rfl rfl (lie5 (by simp only [World.size_setCell])) (TrV_one (t := { t with due := (sum + y8 - y9) })) (by unfold maxLen; omega) (by omega) (by simp only [World.size_alloc, World.size_setCell]; omega) ?_)
        intro v' W1 hown1 hgr1 _ hloc1
        obtain ⟨gn, cn, rfl⟩ := Joins.ownsRow_form hown1 (by omega)
        obtain ⟨m2, z2'⟩ := (hLD.later (b1 _ _)).grown2 hgr1
        clear f0 f1 f2 f3 f4 q2 t2 e2 z2
        go_wp2
        go_roundw
        case rel => exact ⟨g', kk + 2 + 2, _, _, rfl, hT.step hM3 hI hbt.out hbl hblw hbw hy1N (by omega) (by omega) (by omega) hlen hMD hTD hCD (by omega) hown1 hgr1 (by simpa using hloc1)⟩
        case measure => simp only [intOf]; omega
    · have hcases : (¬ ((0 : Int) < (g : Int))) ∨ ((0 : Int) < (g : Int) ∧ ¬ ((L.length : Int) < 5)) := by omega
      rcases hcases with hg1 | ⟨hg1, hg2⟩
      all_goals
        go_wp2
        apply hK'.out
        exact hT
end Go.Proofs.YtelickcfodcmaaaGreatDoor

