/-
  The program's reader: words with a number behind each.
-/
import Derived.Test.YthnlkpifafklkaaGreatDoorGNum
import Derived.Test.YthnlkpifafklkaaGreatDoorOwnT
namespace Go.Proofs.YthnlkpifafklkaaGreatDoor
open Go.RowKit

theorem Mid.grown {lo hi : Nat} {w W W' : World} {row : Option Nat} (h : Mid lo hi w W) (hg : W.grownBy W' row) (hr : ∀ k, row = some k → w.heap.size ≤ k) (hlo : lo ≤ w.heap.size) : Mid lo hi w W' := by
  have hs := h.below.size
  have hk : ∀ k, k < w.heap.size → W'.heap[k]? = W.heap[k]? := fun k hk => hg.block k (by omega) (fun e => by have := hr k e.symm; omega)
  refine ⟨below_grown h.below hg (by omega) (fun k e => by have := hr k e; omega), fun x h0 h1 => (hk x h1).trans (h.above x h0 h1), fun b o v hc hf => ?_⟩
  obtain ⟨v', h1, h2⟩ := h.keeps b o v hc hf
  have hb : W'.heap[b]? = W.heap[b]? := hk b (ltCell hc)
  exact ⟨v', (World.cell?_of_block (w := W) (w' := W') (a := ⟨b, o, none⟩) hb).trans h1, (World.frozen?_of_block (w := W) (w' := W') (a := ⟨b, o, none⟩) hb).trans h2⟩
theorem Rd.grown {w0 W W' : World} {b : Nat} {s : Bs} {r : Int} {row : Option Nat} (h : Rd w0 b s r W) (hg : W.grownBy W' row) (hr : ∀ k, row = some k → b < k) : Rd w0 b s r W' := by
  have hlt := ltCell h.c0
  dsimp only at hlt
  have hlo := h.lo
  have hb : W'.heap[b]? = W.heap[b]? := hg.block b hlt (fun e => by have := hr b e.symm; omega)
  have cc : ∀ o u, W.cell? ⟨b, o, none⟩ = some u → W'.cell? ⟨b, o, none⟩ = some u := fun o u hu => (World.cell?_of_block (w := W) (w' := W') (a := ⟨b, o, none⟩) hb).trans hu
  have zz : ∀ o, W.frozen? ⟨b, o, none⟩ = false → W'.frozen? ⟨b, o, none⟩ = false := fun o hu => (World.frozen?_of_block (w := W) (w' := W') (a := ⟨b, o, none⟩) hb).trans hu
  exact ⟨below_grown h.base hg (by omega) (fun k e => by have := hr k e; omega), h.lo, cc 0 _ h.c0, cc 1 _ h.c1, zz 0 h.z0, zz 1 h.z1⟩
theorem rowMid {W W' : World} {b B0 : Nat} {e : TypeId} {size : Nat} {v : Value} {n : Nat} {xs : List Value} (h : W.ownsRow B0 e size v n xs) (hM : Mid b (b + 1) W W') (hb : b < B0) : W'.ownsRow B0 e size v n xs :=
  ownsRow_same h (fun k hk => hM.above k (by have := (h.lt k hk).1; omega) (h.lt k hk).2)

theorem info3 {P : Program} {t : TypeId} {z : Value} {s b : Nat} (h : (P.info? t).map (fun i => (i.zero, i.size, i.bytes)) = some (some z, s, b)) : ∃ i, P.info? t = some i ∧ i.zero = some z ∧ i.size = s ∧ i.bytes = b := by
  cases hi : P.info? t with
  | none => rw [hi] at h; simp at h
  | some i => rw [hi] at h; simp at h; exact ⟨i, rfl, h.1, h.2.1, h.2.2⟩
theorem words_at {kd : Nat} : (wordsOf kd).length ≤ 4 ∧ ∀ x ∈ wordsOf kd, x.length ≤ 8 := by
  match kd with
  | 0 => exact ⟨by decide, by decide⟩
  | 1 => exact ⟨by decide, by decide⟩
  | 2 => exact ⟨by decide, by decide⟩
  | _ + 3 => exact ⟨by simp [wordsOf], by simp [wordsOf]⟩
theorem prB_cons (f : Bool) (x : Bs) (xs : List Bs) (s : Bs) : prB f (x :: xs) s = (if f then some s else takeB [32] s).bind fun s1 => (takeB (x ++ [32]) s1).bind fun s2 => (numB s2).bind fun n => (prB false xs n.2).map fun y => (n.1 ++ y.1, y.2) := rfl
theorem takeB_len {p s r : Bs} (h : takeB p s = some r) : r.length ≤ s.length := by rw [takeB_sub h, List.length_append]; omega

set_option maxRecDepth 20000 in
set_option maxHeartbeats 8000000 in
theorem pairs_any (w0 : World) (b : Nat) (s : Bs) (row : Int) (kd : Nat) (w : World) (hkd : kd < 4) (hR : Rd w0 b s row w) (hL : LaidR w0) (hs : s.length ≤ 4000) :
    Calls Tryz.prog 123 #[.pointer (some ⟨b, 0, none⟩), .int .i64 kd] w fun e w' => (prB true (wordsOf kd) s = none ∧ Quit b row w e w') ∨ ∃ a r v, prB true (wordsOf kd) s = some (a, r) ∧ e = .returned v ∧ w'.ownsRow w.heap.size 3 1 v a.length (intCells a) ∧ Rd w0 b r row w' ∧ Mid b (b + 1) w w' := by
  obtain ⟨i0, hi, hz0, hz1, hz2⟩ := info3 Tryz.infoInt
  obtain ⟨bw, ow, cw, hw0, hwc⟩ := hL.words kd hkd
  obtain ⟨hwl, hwx⟩ := words_at (kd := kd)
  have hkd' : (kd : Int) < 4 := by omega
  have hkd0 : (0 : Int) ≤ (kd : Int) := by omega
  have hblt : b < w.heap.size := ltCell hR.c0
  have u0 := cellLater hR.base hw0
  generalize hT0 : prB true (wordsOf kd) s = T
  go_enter Tryz.func123, Tryz.ntmps123
  go_wp2
  go_loopw [5, 12] (fun oo ii wr => ∃ (i : Nat) (a : List Int) (si : Bs), i ≤ (wordsOf kd).length ∧ ii = .int .i64 i ∧ a.length = i ∧ si.length ≤ 4000 ∧ wr.ownsRow w.heap.size 3 1 oo a.length (intCells a) ∧ Rd w0 b si row wr ∧ Mid b (b + 1) w wr ∧ T = (prB (decide (i = 0)) ((wordsOf kd).drop i) si).map fun y => (a ++ y.1, y.2)) (fun _ ii _ => (wordsOf kd).length - (intOf ii).toNat)
  case atStart => exact ⟨0, [], s, Nat.zero_le _, rfl, rfl, hs, World.ownsRow_nil _ _ _ _, hR, Mid.refl _ _ _, by rw [← hT0]; show _ = (prB true (wordsOf kd) s).map _; cases prB true (wordsOf kd) s <;> rfl⟩
  case round =>
    obtain ⟨i, a, si, hile, rfl, hal, hsi, hown, hRd, hMd, hT⟩ := hrel
    by_cases hlt : i < (wordsOf kd).length
    · have hlt' : (i : Int) < ((wordsOf kd).length : Int) := by omega
      have hi0 : (0 : Int) ≤ (i : Int) := by omega
      obtain ⟨x, hx⟩ : ∃ x, (wordsOf kd)[i]? = some x := ⟨_, List.getElem?_eq_getElem hlt⟩
      have v1 := cellLater hRd.base (hwc i x hx)
      have hxl : x.length ≤ 8 := hwx x (List.mem_of_getElem? hx)
      have hadd : ∀ W, (Op.stringOp .add (ba x) ⟨#[32]⟩).run Tryz.prog W = .ok (.string (ba (x ++ [32]))) W := fun W => add_ba x [32] (by simp; omega) W
      have hdrop : (wordsOf kd).drop i = x :: (wordsOf kd).drop (i + 1) := by
        rw [List.drop_eq_getElem_cons hlt]
        rw [List.getElem?_eq_getElem hlt, Option.some.injEq] at hx
        rw [hx]
      rw [hdrop, prB_cons] at hT
      clear hdrop hx hT0
      by_cases h0 : i = 0
      · subst h0
        rw [Nat.add_zero] at v1
        have hT1 := hT
        rw [decide_eq_true rfl, if_pos rfl, Option.bind_some] at hT1
        obtain ⟨s1, hs1⟩ : ∃ s1, s1 = si := ⟨_, rfl⟩
        rw [← hs1] at hT1 hRd hsi
        have hRd1 := hRd
        have hMd1 := hMd
        have hown1 := hown
        clear hT hs1 hRd hMd hown
        cases ht : takeB (x ++ [32]) s1 with
        | none =>
          rw [ht] at hT1
          go_wp2_with (first  | (go_at_call 125; refine (takeR_no hRd1 ht).mono ?_; rintro _ wq ⟨rfl, hMq⟩))
          exact ⟨rfl, Or.inl ⟨hT1, rfl, hMd1.trans hMq⟩⟩
        | some s2 =>
          have hl2 := takeB_len ht
          cases hn : numB s2 with
          | none =>
            rw [ht, Option.bind_some, hn] at hT1
            go_wp2_with (first  | (go_at_call 125; refine (takeR_yes hRd1 ht).mono ?_; rintro _ w2 ⟨rfl, hRd2, hM2⟩) | (go_at_call 126; refine (number_no w0 b s2 row _ hRd2 hL (by omega) hn).mono ?_; rintro _ wq ⟨rfl, hMq⟩))
            exact ⟨rfl, Or.inl ⟨hT1, rfl, (hMd1.trans hM2).trans hMq⟩⟩
          | some nr =>
            obtain ⟨na, s3⟩ := nr
            obtain ⟨hk, rfl, rfl⟩ := numB_parts hn
            rw [ht, Option.bind_some, hn, Option.bind_some] at hT1
            have hN := fun W (h : Rd w0 b s2 row W) => number_yes w0 b s2 row W h hL (by omega) hk
            have hl3 : (s2.drop (s2.takeWhile dig).length).length ≤ s2.length := by rw [List.length_drop]; omega
            generalize s2.drop (s2.takeWhile dig).length = s3 at hT1 hN hl3
            generalize numVal (s2.takeWhile dig) = nv at hT1 hN
            have hT1' : Hid _ := hT1
            clear hT1 hn hk
            go_wp2_with (first  | (go_at_call 125; refine (takeR_yes hRd1 ht).mono ?_; rintro _ w2 ⟨rfl, hRd2, hM2⟩) | (go_at_call 126; refine (hN _ hRd2).mono ?_; rintro _ w3 ⟨rfl, hRd3, hM3⟩; have hown3 := rowMid (rowMid hown1 hM2 hblt) hM3 hblt; have hsz3 := ((hMd1.trans hM2).trans hM3).below.size) | (at_builtin; refine wpList_append_own _ rfl _ _ 22 rfl w.heap.size 3 i0 _ 1 8 Tryz.underlying22 hi hz0 hz1 hz2 rfl (by decide) _ _ _ rfl (hown3.alloc _) ⟨w3.heap.size, 0, none⟩ 1 1 [.int .i64 nv] rfl rfl cells1_lie one1 (by unfold maxLen; omega) (by omega) (by simp only [World.size_alloc]; omega) ?_))
            intro v' w6 hown' hgrow _
            have hlow : ∀ k, u5.ownBlock = some k → w.heap.size ≤ k := fun k hk => (hown3.lt k hk).1
            have hM6 : Mid b (b + 1) w w6 := (((hMd1.trans hM2).trans hM3).trans (hRd3.ofBelow (b1 w3 (.cells #[.int .i64 nv] 3)))).grown hgrow hlow (Nat.le_of_lt hblt)
            have hR6 : Rd w0 b s3 row w6 := (hRd3.later (b1 w3 (.cells #[.int .i64 nv] 3))).grown hgrow (fun k hk => by have := hlow k hk; omega)
            go_wp2
            go_roundw
            case rel =>
              refine ⟨0 + 1, a ++ [nv], s3, by omega, by go_num, by rw [List.length_append]; simp [hal], by omega, by rw [intCells_snoc, List.length_append, hal]; exact hown', hR6, hM6, ?_⟩
              rw [hT1'.out, show decide (0 + 1 = 0) = false by simp]
              cases prB false ((wordsOf kd).drop (0 + 1)) s3 <;> simp
            case measure => simp [intOf]; omega
      · have h0' : (0 : Int) < (i : Int) := by omega
        rw [decide_eq_false h0] at hT
        simp only [Bool.false_eq_true, if_false] at hT
        cases hs1 : takeB [32] si with
        | none =>
          rw [hs1] at hT
          go_wp2_with (go_at_call 125; refine (takeR_no hRd hs1).mono ?_; rintro _ wq ⟨rfl, hMq⟩)
          exact ⟨rfl, Or.inl ⟨hT, rfl, hMd.trans hMq⟩⟩
        | some s1 =>
          have hT1 := hT
          rw [hs1, Option.bind_some] at hT1
          have hl1 := takeB_len hs1
          have hRdC := hRd
          have hMdC := hMd
          have hownC := hown
          clear hT hRd hMd hown
          cases ht : takeB (x ++ [32]) s1 with
          | none =>
            rw [ht] at hT1
            go_wp2_with (first | (go_at_call 125; refine (takeR_yes hRdC (by first | exact hs1 | exact ht)).mono ?_; rintro _ wn ⟨rfl, hRdN, hMN⟩; replace hMdC := hMdC.trans hMN; replace hownC := rowMid hownC hMN hblt; clear hRdC; have hRdC := hRdN; clear hRdN hMN) | (go_at_call 125; refine (takeR_no hRdC ht).mono ?_; rintro _ wq ⟨rfl, hMq⟩))
            exact ⟨rfl, Or.inl ⟨hT1, rfl, hMdC.trans hMq⟩⟩
          | some s2 =>
            have hl2 := takeB_len ht
            cases hn : numB s2 with
            | none =>
              rw [ht, Option.bind_some, hn] at hT1
              go_wp2_with (first | (go_at_call 125; refine (takeR_yes hRdC (by first | exact hs1 | exact ht)).mono ?_; rintro _ wn ⟨rfl, hRdN, hMN⟩; replace hMdC := hMdC.trans hMN; replace hownC := rowMid hownC hMN hblt; clear hRdC; have hRdC := hRdN; clear hRdN hMN) | (go_at_call 126; refine (number_no w0 b s2 row _ hRdC hL (by omega) hn).mono ?_; rintro _ wq ⟨rfl, hMq⟩))
              exact ⟨rfl, Or.inl ⟨hT1, rfl, hMdC.trans hMq⟩⟩
            | some nr =>
              obtain ⟨na, s3⟩ := nr
              obtain ⟨hk, rfl, rfl⟩ := numB_parts hn
              rw [ht, Option.bind_some, hn, Option.bind_some] at hT1
              have hN := fun W (h : Rd w0 b s2 row W) => number_yes w0 b s2 row W h hL (by omega) hk
              have hl3 : (s2.drop (s2.takeWhile dig).length).length ≤ s2.length := by rw [List.length_drop]; omega
              generalize s2.drop (s2.takeWhile dig).length = s3 at hT1 hN hl3
              generalize numVal (s2.takeWhile dig) = nv at hT1 hN
              have hT1' : Hid _ := hT1
              clear hT1 hn hk
              go_wp2_with (first | (go_at_call 125; refine (takeR_yes hRdC (by first | exact hs1 | exact ht)).mono ?_; rintro _ wn ⟨rfl, hRdN, hMN⟩; replace hMdC := hMdC.trans hMN; replace hownC := rowMid hownC hMN hblt; clear hRdC; have hRdC := hRdN; clear hRdN hMN) | (go_at_call 126; refine (hN _ hRdC).mono ?_; rintro _ w3 ⟨rfl, hRd3, hM3⟩; have hown3 := rowMid hownC hM3 hblt; have hsz3 := (hMdC.trans hM3).below.size) | (at_builtin; refine wpList_append_own _ rfl _ _ 22 rfl w.heap.size 3 i0 _ 1 8 Tryz.underlying22 hi hz0 hz1 hz2 rfl (by decide) _ _ _ rfl (hown3.alloc _) ⟨w3.heap.size, 0, none⟩ 1 1 [.int .i64 nv] rfl rfl cells1_lie one1 (by unfold maxLen; omega) (by omega) (by simp only [World.size_alloc]; omega) ?_))
              intro v' w6 hown' hgrow _
              have hlow : ∀ k, u5.ownBlock = some k → w.heap.size ≤ k := fun k hk => (hown3.lt k hk).1
              have hM6 : Mid b (b + 1) w w6 := ((hMdC.trans hM3).trans (hRd3.ofBelow (b1 w3 (.cells #[.int .i64 nv] 3)))).grown hgrow hlow (Nat.le_of_lt hblt)
              have hR6 : Rd w0 b s3 row w6 := (hRd3.later (b1 w3 (.cells #[.int .i64 nv] 3))).grown hgrow (fun k hk => by have := hlow k hk; omega)
              go_wp2
              go_roundw
              case rel =>
                refine ⟨i + 1, a ++ [nv], s3, by omega, by go_num, by rw [List.length_append]; simp [hal], by omega, by rw [intCells_snoc, List.length_append, hal]; exact hown', hR6, hM6, ?_⟩
                rw [hT1'.out, show decide (i + 1 = 0) = false by simp]
                cases prB false ((wordsOf kd).drop (i + 1)) s3 <;> simp
              case measure => simp [intOf]; omega
    · obtain rfl : i = (wordsOf kd).length := by omega
      rw [List.drop_length] at hT
      go_wp2
      go_ret
      exact Or.inr ⟨a, si, u5, by rw [hT]; simp [prB], rfl, hown, hRd, hMd⟩

section
variable {w0 w : World} {b : Nat} {s : Bs} {row : Int}
theorem pairs_no {kd : Nat} (hkd : kd < 4) (hR : Rd w0 b s row w) (hL : LaidR w0) (hs : s.length ≤ 4000) (h : prB true (wordsOf kd) s = none) :
    Calls Tryz.prog 123 #[.pointer (some ⟨b, 0, none⟩), .int .i64 kd] w fun e w' => Quit b row w e w' := by
  refine (pairs_any w0 b s row kd w hkd hR hL hs).mono ?_
  rintro e w' (⟨_, hq⟩ | ⟨a, r, v, h1, _⟩)
  · exact hq
  · rw [h] at h1; cases h1
theorem pairs_yes {kd : Nat} {a : List Int} {r : Bs} (hkd : kd < 4) (hR : Rd w0 b s row w) (hL : LaidR w0) (hs : s.length ≤ 4000) (h : prB true (wordsOf kd) s = some (a, r)) :
    Calls Tryz.prog 123 #[.pointer (some ⟨b, 0, none⟩), .int .i64 kd] w fun e w' => ∃ v, e = .returned v ∧ w'.ownsRow w.heap.size 3 1 v a.length (intCells a) ∧ Rd w0 b r row w' ∧ Mid b (b + 1) w w' := by
  refine (pairs_any w0 b s row kd w hkd hR hL hs).mono ?_
  rintro e w' (⟨h1, _⟩ | ⟨a', r', v, h1, h2⟩)
  · rw [h] at h1; cases h1
  · rw [h] at h1; cases h1; exact ⟨v, h2⟩
theorem endR_no (hR : Rd w0 b s row w) (h : takeB [10] s = none) : Calls Tryz.prog 127 #[.pointer (some ⟨b, 0, none⟩)] w fun e w' => Quit b row w e w' := by
  have hp : [10].isPrefixOf s = false := by
    unfold takeB at h
    split at h
    · cases h
    · rename_i h2; exact Bool.eq_false_iff.2 h2
  refine (endRow_no b s row w hR.c0 hR.c1 hp).mono ?_
  rintro _ _ ⟨rfl, rfl⟩
  exact ⟨rfl, Mid.refl _ _ _⟩
theorem endR_yes (hR : Rd w0 b s row w) (hr : 0 ≤ row) (hr1 : row ≤ 1000000) {r : Bs} (h : takeB [10] s = some r) : Calls Tryz.prog 127 #[.pointer (some ⟨b, 0, none⟩)] w fun e w' => e = .returned (.tuple #[]) ∧ Rd w0 b r (row + 1) w' ∧ Mid b (b + 1) w w' := by
  have hp : [10].isPrefixOf s = true ∧ s.drop 1 = r := by
    unfold takeB at h
    split at h
    · rename_i h2; exact ⟨h2, Option.some.inj h⟩
    · cases h
  refine (endRow_yes b s row w hR.c0 hR.z0 hR.c1 hR.z1 hr hr1 hp.1).mono ?_
  rintro _ _ ⟨rfl, rfl⟩
  rw [hp.2]
  exact ⟨rfl, (hR.take r).next (row + 1), (way_take hR _ 0).trans (way_take (hR.take r) _ 1)⟩

set_option maxHeartbeats 2000000 in
theorem numbers_no {kd : Nat} (hkd : kd < 4) (hR : Rd w0 b s row w) (hL : LaidR w0) (hs : s.length ≤ 4000) (h : numbersB kd s = none) :
    Calls Tryz.prog 104 #[.pointer (some ⟨b, 0, none⟩), .int .i64 kd] w fun e w' => Quit b row w e w' := by
  unfold numbersB at h
  cases h1 : prB true (wordsOf kd) s with
  | none =>
    have hP := pairs_no hkd hR hL hs h1
    go_enter Tryz.func104, Tryz.ntmps104
    go_wp2_with (go_at_call 123; refine hP.mono ?_; rintro _ w2 ⟨rfl, hM2⟩)
    exact ⟨rfl, rfl, hM2⟩
  | some x =>
    obtain ⟨a, r⟩ := x
    rw [h1, Option.bind_some] at h
    have h2 : takeB [10] r = none := by
      cases h3 : takeB [10] r with
      | none => rfl
      | some q => rw [h3] at h; cases h
    have hP := pairs_yes hkd hR hL hs h1
    go_enter Tryz.func104, Tryz.ntmps104
    go_wp2_with (first | (go_at_call 123; refine hP.mono ?_; rintro _ w2 ⟨v, rfl, hown2, hR2, hM2⟩) | (go_at_call 127; refine (endR_no hR2 h2).mono ?_; rintro _ w3 ⟨rfl, hM3⟩))
    exact ⟨rfl, rfl, hM2.trans hM3⟩
set_option maxHeartbeats 2000000 in
theorem numbers_yes {kd : Nat} {a : List Int} {r : Bs} (hkd : kd < 4) (hR : Rd w0 b s row w) (hL : LaidR w0) (hs : s.length ≤ 4000) (hr : 0 ≤ row) (hr1 : row ≤ 1000000) (h : numbersB kd s = some (a, r)) :
    Calls Tryz.prog 104 #[.pointer (some ⟨b, 0, none⟩), .int .i64 kd] w fun e w' => ∃ v, e = .returned v ∧ w'.ownsRow w.heap.size 3 1 v a.length (intCells a) ∧ Rd w0 b r (row + 1) w' ∧ Mid b (b + 1) w w' := by
  have hblt : b < w.heap.size := ltCell hR.c0
  unfold numbersB at h
  cases h1 : prB true (wordsOf kd) s with
  | none => rw [h1] at h; cases h
  | some x =>
    obtain ⟨a', r'⟩ := x
    rw [h1, Option.bind_some] at h
    cases h2 : takeB [10] r' with
    | none => rw [h2] at h; cases h
    | some q =>
      rw [h2] at h
      cases h
      have hP := pairs_yes hkd hR hL hs h1
      go_enter Tryz.func104, Tryz.ntmps104
      go_wp2_with (first | (go_at_call 123; refine hP.mono ?_; rintro _ w2 ⟨v, rfl, hown2, hR2, hM2⟩) | (go_at_call 127; refine (endR_yes hR2 hr hr1 h2).mono ?_; rintro _ w3 ⟨rfl, hR3, hM3⟩))
      go_ret
      exact ⟨v, rfl, rowMid hown2 hM3 hblt, hR3, hM2.trans hM3⟩
end
end Go.Proofs.YthnlkpifafklkaaGreatDoor
