/-
  The model's ReadLine.
  The model's ReadLine, at every text.
-/
import Derived.Test.YthnlkpifafklkaaGreatDoorGSpecT
import Derived.Test.YthnlkpifafklkaaGreatDoorReadL
import Derived.Test.YthnlkpifafklkaaGreatDoorSpecL
import Derived.Laws.DeepStrings4
namespace Go.Proofs.YthnlkpifafklkaaGreatDoor
open Go.RowKit

theorem l4take_any (B0 bl n : Nat) (x : Bs) (tr : List Int) (gap : Int) (L : List TrV) (vt vT : Value) (w : World) (hn1 : n ≤ 4100) (hx : x.length ≤ 4000) (hLB : LBox B0 bl w tr gap L vt vT) (h1 : tr.length ≤ 39) (h2 : L.length ≤ n) (h3 : ∀ y ∈ L, y.1.legs.length ≤ n) (hB0 : B0 ≤ w.heap.size) (hv : n = 0 → vT = .slice none 0 0) :
    Calls Tryz.prog 44 #[.pointer (some ⟨bl, 0, none⟩), .string (ba x), .int .i64 n] w (TakePost B0 bl ⟨tr, gap, L.map Prod.fst⟩ x n w) := by
  rcases Nat.lt_trichotomy n 1 with h | h | h
  · obtain rfl : n = 0 := by omega
    obtain rfl : L = [] := List.eq_nil_of_length_eq_zero (by omega)
    obtain rfl := hv rfl
    exact l4take_tracks B0 bl x gap vt tr w hx hLB hB0
  · subst h
    exact l4take_gap B0 bl x tr gap L vt vT w hx hLB h1 h2 h3
  · by_cases hh : (cutB x).head? = some (wordsOf 2)[0]!
    · exact l4take_train B0 bl n x tr gap L vt vT w (by omega) hn1 hx hLB h1 h2 h3 hB0 hh
    · exact l4take_leg B0 bl n x tr gap L vt vT w (by omega) hn1 hx hLB h1 h2 h3 hh
theorem specOk_own {B0 : Nat} {l : LnL} {tr : List Int} {gap : Int} {L : List TrV} {at_ : Option Addr} {ct : Nat} {aT : Option Addr} {cT : Nat} {W : World} (hl : l = ⟨tr, gap, L.map Prod.fst⟩) (hown : LOwn B0 W tr L (.slice at_ tr.length ct) (.slice aT L.length cT)) (hl1 : tr.length ≤ 39) (hl2 : L.length ≤ 5000) (hl3 : ∀ x ∈ L, x.1.legs.length ≤ 5000) :
    Calls Tryz.prog 45 #[.agg #[.slice at_ tr.length ct, .int .i64 gap, .slice aT L.length cT]] W fun e w' => e = .returned (.agg #[.int .i64 (faultL l).1, .int .i64 (faultL l).2]) ∧ Below W.heap.size W w' := by
  obtain ⟨a1, c1, e1, hI⟩ := ownInts hown.ints
  obtain ⟨a2, c2, e2, hT⟩ := hown.trs.trains (fun x hx => by have := hl3 x hx; unfold maxLen; omega)
  cases e1
  cases e2
  have hml : ∀ j, j < L.length → (fT (L.map Prod.fst) j).nl ≤ 1048576 := fun j hj => by
    have hf : fT (L.map Prod.fst) j = trD L[j].1 := by unfold fT; rw [List.getD_eq_getElem?_getD, List.getElem?_map, List.getElem?_eq_getElem hj]; rfl
    rw [hf]
    have := hl3 _ (List.getElem_mem hj)
    show (L[j].1.legs.length) ≤ 1048576
    omega
  have h := specOk_any at_ tr.length ct (gI tr) gap aT L.length cT (fT (L.map Prod.fst)) W (by omega) (by omega) hml (hI.mono (Nat.zero_le _) (Nat.le_refl _)) (hT.mono (Nat.zero_le _) (Nat.le_refl _))
  have hff : faultL l = faultOf tr.length (gI tr) gap L.length (fT (L.map Prod.fst)) := by rw [hl]; unfold faultL; simp
  rw [hff]
  exact h
/-- what stands ahead of the first newline, and the rest -/
def leadN (p : Bs) (c : List Bs × Bs) : List Bs × Bs := match c.1 with
  | [] => ([], p ++ c.2)
  | x :: xs => ((p ++ x) :: xs, c.2)
theorem leadN_nil (c : List Bs × Bs) : leadN [] c = c := by
  obtain ⟨a, b⟩ := c
  cases a <;> rfl
theorem leadN_step (p : Bs) (b : UInt8) (t : Bs) : leadN p (cutN (b :: t)) = if b = 10 then (p :: (cutN t).1, (cutN t).2) else leadN (p ++ [b]) (cutN t) := by
  have hc : cutN (b :: t) = if b = 10 then ([] :: (cutN t).1, (cutN t).2) else match (cutN t).1 with
    | [] => ([], b :: (cutN t).2)
    | x :: xs => ((b :: x) :: xs, (cutN t).2) := rfl
  rw [hc]
  by_cases hb : b = 10
  · simp [hb, leadN]
  · rw [if_neg hb, if_neg hb]
    cases h : (cutN t).1 with
    | nil => simp [leadN, h]
    | cons x xs => simp [leadN, h]
theorem leadN_at (s : Bs) (p : Bs) (i : Nat) (h : i < s.length) : leadN p (cutN (s.drop i)) = if s[i] = 10 then (p :: (cutN (s.drop (i + 1))).1, (cutN (s.drop (i + 1))).2) else leadN (p ++ [s[i]]) (cutN (s.drop (i + 1))) := by
  rw [List.drop_eq_getElem_cons h, leadN_step]
set_option maxRecDepth 20000 in
set_option maxHeartbeats 8000000 in
theorem specRead_S (S : ByteArray) (s : Bs) (w : World) (hs : s.length ≤ 1048576) (hsz : S.size = s.length) (hgetS : ∀ i (h : i < S.size) (h' : i < s.length), S[i]'h = s[i]'h') (hsl : ∀ (i j : Nat) (W : World), i ≤ j → j ≤ s.length → (Instr.slice 9 (.string S) (some (.int .i64 (i : Int))) (some (.int .i64 (j : Int))) none).run Tryz.prog W = .ok (.string (ba ((s.drop i).take (j - i)))) W) :
    Calls Tryz.prog 18 #[.string S] w (ToldPost s w) := by
  have hsz' : (S.size : Int) = (s.length : Int) := by rw [hsz]
  by_cases hlong : 4000 < s.length
  · have hT : toldOf s = (2, 0, nilL) := by unfold toldOf; rw [if_pos hlong]
    have hlong' : (4000 : Int) < (s.length : Int) := by omega
    have hP : ∀ w', Below w.heap.size w w' → ToldPost s w (.returned (.agg #[.int .i64 2, .int .i64 0, .slice none 0 0, .int .i64 0, .slice none 0 0])) w' := fun w' hB => toldPost_nil hT hB
    clear hT hsl hgetS
    go_enter Tryz.func18, Tryz.ntmps18
    go_wp2
    exact bodyPost_ret (v := .agg #[.int .i64 2, .int .i64 0, .slice none 0 0, .int .i64 0, .slice none 0 0]) (by simp [results, Tryz.results18, go_sem]) rfl (hP _ (b1 _ _))
  · have hlong' : ¬ ((4000 : Int) < (s.length : Int)) := by omega
    have hTr : ∀ n, goM nilL 0 (cutN s).1 (cutN s).2 = .inr n → toldOf s = (1, (n : Int), nilL) := fun n h => by unfold toldOf; rw [if_neg hlong, h]
    have hTl : ∀ l, goM nilL 0 (cutN s).1 (cutN s).2 = .inl l → toldOf s = if (faultL l).1 = 0 then (0, 0, l) else (2 + (faultL l).1, 0, nilL) := fun l h => by unfold toldOf; rw [if_neg hlong, h]
    generalize hG : goM nilL 0 (cutN s).1 (cutN s).2 = G at hTr hTl
    go_enter Tryz.func18, Tryz.ntmps18
    go_wp2
    have hroomA : Room w.heap.size 5 ((w.alloc (.cells #[.int .i64 0, .int .i64 0, .slice none 0 0, .int .i64 0, .slice none 0 0] 46)).alloc (.cells #[.slice none 0 0, .int .i64 0, .slice none 0 0] 35)) := (Room.lit _ _ _ 5 (by simp)).below (b1 _ _) (by simp)
    have hszA : (((w.alloc (.cells #[.int .i64 0, .int .i64 0, .slice none 0 0, .int .i64 0, .slice none 0 0] 46)).alloc (.cells #[.slice none 0 0, .int .i64 0, .slice none 0 0] 35))).heap.size = w.heap.size + 2 := by simp
    have hBA := b2 w (.cells #[.int .i64 0, .int .i64 0, .slice none 0 0, .int .i64 0, .slice none 0 0] 46) (.cells #[.slice none 0 0, .int .i64 0, .slice none 0 0] 35)
    have hLBA : LBox (w.heap.size + 2) (w.heap.size + 1) ((w.alloc (.cells #[.int .i64 0, .int .i64 0, .slice none 0 0, .int .i64 0, .slice none 0 0] 46)).alloc (.cells #[.slice none 0 0, .int .i64 0, .slice none 0 0] 35)) [] 0 [] (.slice none 0 0) (.slice none 0 0) := by
      refine ⟨?_, ?_, ?_, ?_, ?_, ?_, by omega, ⟨World.ownsRow_nil _ _ _ _, OwnT.nil _ _, fun k e => by simp [Value.ownBlock] at e, fun x hx => absurd hx List.not_mem_nil⟩⟩
      all_goals simp
    refine nameW fun WA hWA => ?_
    rw [← hWA] at hroomA hszA hBA hLBA
    clear hWA
    go_loopw [4, 5, 6] (fun nn ff ii wr => ∃ (n f i : Nat) (tr : List Int) (gap : Int) (L : List TrV) (vt vT : Value), f ≤ i ∧ i ≤ s.length ∧ n ≤ f ∧ nn = .int .i64 n ∧ ff = .int .i64 f ∧ ii = .int .i64 i ∧ G = goM ⟨tr, gap, L.map Prod.fst⟩ n (leadN ((s.drop f).take (i - f)) (cutN (s.drop i))).1 (leadN ((s.drop f).take (i - f)) (cutN (s.drop i))).2 ∧
      LBox (w.heap.size + 2) (w.heap.size + 1) wr tr gap L vt vT ∧ tr.length ≤ 39 ∧ L.length ≤ n ∧ (∀ y ∈ L, y.1.legs.length ≤ n) ∧ (n = 0 → vT = .slice none 0 0) ∧ Below (w.heap.size + 1) WA wr) (fun _ _ ii _ => s.length - (intOf ii).toNat)
    case atStart => exact ⟨0, 0, 0, [], 0, [], _, _, Nat.le_refl _, Nat.zero_le _, Nat.le_refl _, rfl, rfl, rfl, by rw [← hG]; simp only [List.drop_zero, Nat.sub_zero, List.take_zero, leadN_nil]; rfl, hLBA, by simp, by simp, fun y hy => absurd hy List.not_mem_nil, fun _ => rfl, Below.refl _ _⟩
    case round =>
      obtain ⟨n, f, i, tr, gap, L, vt, vT, hfi, hil, hnf, rfl, rfl, rfl, hGo, hLB, hl1, hl2, hl3, hv0, hB⟩ := hrel
      have hszw := hB.size
      have hi0 : (0 : Int) ≤ (i : Int) := by omega
      clear hG
      by_cases hlt : i < s.length
      · have hi' : (i : Int) < (s.length : Int) := by omega
        have hget : S[i]'(by omega) = s[i] := hgetS i (by omega) hlt
        rw [leadN_at s _ i hlt] at hGo
        by_cases h10 : s[i] = 10
        · rw [if_pos h10] at hGo
          rw [h10] at hget
          have hsl' := fun W => hsl f i W hfi hil
          have hpl : ((s.drop f).take (i - f)).length ≤ 4000 := by rw [List.length_take, List.length_drop]; omega
          have hsf : (f : Int) ≤ (i : Int) := by omega
          generalize (s.drop f).take (i - f) = p at hGo hsl' hpl
          have hcall := l4take_any (w.heap.size + 2) (w.heap.size + 1) n p tr gap L vt vT wr (by omega) hpl hLB hl1 hl2 hl3 (by omega) hv0
          clear hsl hgetS
          generalize ba p = PB at hsl' hcall
          cases htk : takeM ⟨tr, gap, L.map Prod.fst⟩ p n with
          | none =>
            have hTn := hTr (n + 1) (by rw [hGo]; simp only [goM, htk])
            rw [show (((n + 1 : Nat) : Int)) = (n : Int) + 1 from rfl] at hTn
            have hcall2 := hcall.mono (R' := fun e w' => e = .returned (.bool false) ∧ Below w.heap.size w w' ∧ Room w.heap.size 5 w') (by
              rintro e w' (⟨_, he, hB2⟩ | ⟨tr2, gap2, L2, vt2, vT2, hts, _⟩)
              · exact ⟨he, Below.join hBA (Nat.le_refl _) (Below.refl _ _) |>.trans ((hB.trans hB2).mono (by omega)), hroomA.below (hB.trans hB2) (by omega)⟩
              · rw [htk] at hts; cases hts)
            clear hcall hGo hTr hTl htk hLB hLBA hl3 hv0
            go_wp2_with (go_at_call 44; refine hcall2.mono ?_; rintro _ w2 ⟨rfl, hB2, hrm⟩; obtain ⟨x0, e0, f0⟩ := hrm 0 (by omega); obtain ⟨x1, e1, f1⟩ := hrm 1 (by omega); obtain ⟨x2, e2, f2⟩ := hrm 2 (by omega); obtain ⟨x3, e3, f3⟩ := hrm 3 (by omega); obtain ⟨x4, e4, f4⟩ := hrm 4 (by omega))
            refine bodyPost_ret (v := .agg #[.int .i64 1, .int .i64 ((n : Int) + 1), .slice none 0 0, .int .i64 0, .slice none 0 0]) (by simp [results, Tryz.results18, go_sem, e0, e1, e2, e3, e4]) rfl (toldPost_nil hTn ?_)
            exact (((((hB2).setCell (p := ⟨w.heap.size, _, none⟩) (Nat.le_refl _) _).setCell (p := ⟨w.heap.size, _, none⟩) (Nat.le_refl _) _).setCell (p := ⟨w.heap.size, _, none⟩) (Nat.le_refl _) _).setCell (p := ⟨w.heap.size, _, none⟩) (Nat.le_refl _) _).setCell (p := ⟨w.heap.size, _, none⟩) (Nat.le_refl _) _
          | some l2 =>
            have hcall2 := hcall.mono (R' := fun e w' => e = .returned (.bool true) ∧ ∃ tr2 gap2 L2 vt2 vT2, l2 = ⟨tr2, gap2, L2.map Prod.fst⟩ ∧ LBox (w.heap.size + 2) (w.heap.size + 1) w' tr2 gap2 L2 vt2 vT2 ∧ Below (w.heap.size + 1) WA w' ∧ tr2.length ≤ 39 ∧ L2.length ≤ n + 1 ∧ ∀ y ∈ L2, y.1.legs.length ≤ n + 1) (by
              rintro e w' (⟨htn, _⟩ | ⟨tr2, gap2, L2, vt2, vT2, hts, he, hLB2, hB2, g1, g2, g3⟩)
              · rw [htk] at htn; cases htn
              · rw [htk] at hts
                exact ⟨he, tr2, gap2, L2, vt2, vT2, Option.some.inj hts, hLB2, hB.trans hB2, g1, g2, g3⟩)
            have hGo2 : G = goM l2 (n + 1) (cutN (s.drop (i + 1))).1 (cutN (s.drop (i + 1))).2 := by rw [hGo]; simp only [goM, htk]
            have hGo' : Hid _ := hGo2
            have hTr' : Hid _ := hTr
            have hTl' : Hid _ := hTl
            clear hcall hGo hGo2 htk hLB hLBA hl3 hv0 hTr hTl
            go_wp2_with (go_at_call 44; refine hcall2.mono ?_; rintro _ w2 ⟨rfl, tr2, gap2, L2, vt2, vT2, rfl, hLB2, hB2, g1, g2, g3⟩)
            go_roundw
            case rel => exact ⟨n + 1, i + 1, i + 1, tr2, gap2, L2, vt2, vT2, Nat.le_refl _, by omega, by omega, by go_num, by go_num, by go_num, by rw [Nat.sub_self, List.take_zero, leadN_nil]; exact hGo'.out, hLB2, g1, g2, g3, fun h => by omega, hB2⟩
            case measure => simp [intOf] <;> omega
        · rw [if_neg h10] at hGo
          have hne : ((s[i].toNat : Int) == 10) = false := by
            have : s[i].toNat ≠ 10 := fun e => h10 (by rw [← UInt8.toNat_inj]; exact e)
            simp; omega
          have hne2 : ¬ (s[i].toNat = 10) := fun e => h10 (by rw [← UInt8.toNat_inj]; exact e)
          have htk : (s.drop f).take (i + 1 - f) = (s.drop f).take (i - f) ++ [s[i]] := by
            rw [show i + 1 - f = (i - f) + 1 by omega, List.take_succ_eq_append_getElem (by rw [List.length_drop]; omega)]
            congr 2
            rw [List.getElem_drop]
            congr 1
            omega
          rw [← htk] at hGo
          have hGo' : Hid _ := hGo
          clear hGo htk h10 hgetS hsl
          generalize s[i] = cc at hget hne hne2
          go_wp2
          go_roundw
          case rel => exact ⟨n, f, i + 1, tr, gap, L, vt, vT, by omega, by omega, hnf, rfl, rfl, by go_num, hGo'.out, hLB, hl1, hl2, hl3, hv0, hB⟩
          case measure => simp [intOf] <;> omega
      · obtain rfl : i = s.length := by omega
        have hBw : Below w.heap.size w wr := hBA.trans (hB.mono (by omega))
        have hrm := hroomA.below hB (by omega)
        have hpd : (s.drop f).take (s.length - f) = s.drop f := List.take_of_length_le (by rw [List.length_drop]; omega)
        have hGo2 : G = if s.drop f ≠ [] ∨ n < 2 then .inr (n + 1) else .inl ⟨tr, gap, L.map Prod.fst⟩ := by
          rw [hGo, hpd, List.drop_length]
          simp only [cutN, leadN, List.append_nil, goM]
        clear hGo hpd
        have hdn : s.drop f ≠ [] ↔ f < s.length := by
          rw [← List.length_pos_iff, List.length_drop]; omega
        clear hsl hgetS
        obtain ⟨x0, e0, f0⟩ := hrm 0 (by omega)
        obtain ⟨x1, e1, f1⟩ := hrm 1 (by omega)
        obtain ⟨x2, e2, f2⟩ := hrm 2 (by omega)
        obtain ⟨x3, e3, f3⟩ := hrm 3 (by omega)
        obtain ⟨x4, e4, f4⟩ := hrm 4 (by omega)
        by_cases hf : f < s.length
        · have hTn := hTr (n + 1) (by rw [hGo2, if_pos (Or.inl (hdn.2 hf))])
          rw [show (((n + 1 : Nat) : Int)) = (n : Int) + 1 from rfl] at hTn
          have hf' : (f : Int) < (s.length : Int) := by omega
          clear hTr hTl hGo2 hdn hLB hLBA hl3 hv0
          go_wp2
          refine bodyPost_ret (v := .agg #[.int .i64 1, .int .i64 ((n : Int) + 1), .slice none 0 0, .int .i64 0, .slice none 0 0]) (by simp [results, Tryz.results18, go_sem, e0, e1, e2, e3, e4]) rfl (toldPost_nil hTn ?_)
          exact (((((hBw).setCell (p := ⟨w.heap.size, _, none⟩) (Nat.le_refl _) _).setCell (p := ⟨w.heap.size, _, none⟩) (Nat.le_refl _) _).setCell (p := ⟨w.heap.size, _, none⟩) (Nat.le_refl _) _).setCell (p := ⟨w.heap.size, _, none⟩) (Nat.le_refl _) _).setCell (p := ⟨w.heap.size, _, none⟩) (Nat.le_refl _) _
        · have hf' : ¬ ((f : Int) < (s.length : Int)) := by omega
          by_cases hn2 : n < 2
          · have hTn := hTr (n + 1) (by rw [hGo2, if_pos (Or.inr hn2)])
            rw [show (((n + 1 : Nat) : Int)) = (n : Int) + 1 from rfl] at hTn
            have hn' : (n : Int) < 2 := by omega
            clear hTr hTl hGo2 hdn hLB hLBA hl3 hv0
            go_wp2
            refine bodyPost_ret (v := .agg #[.int .i64 1, .int .i64 ((n : Int) + 1), .slice none 0 0, .int .i64 0, .slice none 0 0]) (by simp [results, Tryz.results18, go_sem, e0, e1, e2, e3, e4]) rfl (toldPost_nil hTn ?_)
            exact (((((hBw).setCell (p := ⟨w.heap.size, _, none⟩) (Nat.le_refl _) _).setCell (p := ⟨w.heap.size, _, none⟩) (Nat.le_refl _) _).setCell (p := ⟨w.heap.size, _, none⟩) (Nat.le_refl _) _).setCell (p := ⟨w.heap.size, _, none⟩) (Nat.le_refl _) _).setCell (p := ⟨w.heap.size, _, none⟩) (Nat.le_refl _) _
          · have hn' : ¬ ((n : Int) < 2) := by omega
            have hTl2 := hTl _ (hGo2.trans (if_neg (fun h => h.elim (fun h => hf (hdn.1 h)) hn2)))
            obtain ⟨at_, ct, rfl, _⟩ := ownInts hLB.own.ints
            obtain ⟨aT, cT, rfl, _⟩ := hLB.own.trs.trains (fun x hx => by have := hl3 x hx; unfold maxLen; omega)
            have hok := fun W (hB9 : Below wr.heap.size wr W) => specOk_own (l := ⟨tr, gap, L.map Prod.fst⟩) rfl (hLB.own.later hB9) hl1 (by omega) (fun x hx => by have := hl3 x hx; omega)
            have c0 := hLB.c0
            have c1 := hLB.c1
            have c2 := hLB.c2
            have hcd := faultL_code (l := ⟨tr, gap, L.map Prod.fst⟩)
            have hown := hLB.own
            clear hTr hTl hGo2 hdn hLBA hv0
            generalize faultL ⟨tr, gap, L.map Prod.fst⟩ = F at hok hTl2 hcd
            by_cases hz : F.1 = 0
            · rw [if_pos hz] at hTl2
              have hTl' : Hid _ := hTl2
              clear hTl2 e0 e1 e2 e3 e4 f0 f1 f2 f3 f4 hcd
              rw [hz] at hok
              generalize F.2 = d at hok
              clear hz
              go_wp2_with (go_at_call 45; refine (hok wr (Below.refl _ _)).mono ?_; rintro _ w3 ⟨rfl, hB3⟩; replace c0 := cellLater hB3 c0; replace c1 := cellLater hB3 c1; replace c2 := cellLater hB3 c2; have hrm3 := hrm.below hB3 (by omega); obtain ⟨u0, d0, g0⟩ := hrm3 0 (by omega); obtain ⟨u1, d1, g1⟩ := hrm3 1 (by omega); obtain ⟨u2, d2, g2⟩ := hrm3 2 (by omega); obtain ⟨u3, d3, g3⟩ := hrm3 3 (by omega); obtain ⟨u4, d4, g4⟩ := hrm3 4 (by omega); have hlt3 : w.heap.size < w3.heap.size := (by have h9 := hB3.size; omega); have hlt4 : w.heap.size + 1 < w3.heap.size := (by have h9 := hB3.size; omega))
              refine bodyPost_ret (v := .agg #[.int .i64 0, .int .i64 0, .slice at_ tr.length ct, .int .i64 gap, .slice aT L.length cT]) (by simp [results, Tryz.results18, go_sem, d0, d1, d2, d3, d4, hlt3]) rfl ⟨tr, gap, L, at_, ct, aT, cT, by rw [hTl'.out], by rw [hTl'.out], ?_, hl1, by omega, fun x hx => by have := hl3 x hx; omega, ?_⟩
              · exact ((((((hown.later hB3).set ⟨w.heap.size, _, none⟩ (by show w.heap.size < w.heap.size + 2; omega) _).set ⟨w.heap.size, _, none⟩ (by show w.heap.size < w.heap.size + 2; omega) _).set ⟨w.heap.size, _, none⟩ (by show w.heap.size < w.heap.size + 2; omega) _).set ⟨w.heap.size, _, none⟩ (by show w.heap.size < w.heap.size + 2; omega) _).set ⟨w.heap.size, _, none⟩ (by show w.heap.size < w.heap.size + 2; omega) _).later (b1 _ _) |>.low (by omega)
              · exact (((((Below.join hBw (Nat.le_refl _) hB3).setCell (p := ⟨w.heap.size, _, none⟩) (Nat.le_refl _) _).setCell (p := ⟨w.heap.size, _, none⟩) (Nat.le_refl _) _).setCell (p := ⟨w.heap.size, _, none⟩) (Nat.le_refl _) _).setCell (p := ⟨w.heap.size, _, none⟩) (Nat.le_refl _) _).setCell (p := ⟨w.heap.size, _, none⟩) (Nat.le_refl _) _ |>.alloc (by simp; omega) _
            · rw [if_neg hz] at hTl2
              have hTl' : Hid _ := hTl2
              clear hTl2 e0 e1 e2 e3 e4 f0 f1 f2 f3 f4
              generalize F.1 = c at hok hz hTl' hcd
              generalize F.2 = d at hok
              have hcz : (c == 0) = false := by simpa using hz
              have hc0 : 0 ≤ c := by omega
              have hc3 : c ≤ 3 := by omega
              clear hcd
              go_wp2_with (go_at_call 45; refine (hok wr (Below.refl _ _)).mono ?_; rintro _ w3 ⟨rfl, hB3⟩; replace c0 := cellLater hB3 c0; replace c1 := cellLater hB3 c1; replace c2 := cellLater hB3 c2; have hrm3 := hrm.below hB3 (by omega); obtain ⟨u0, d0, g0⟩ := hrm3 0 (by omega); obtain ⟨u1, d1, g1⟩ := hrm3 1 (by omega); obtain ⟨u2, d2, g2⟩ := hrm3 2 (by omega); obtain ⟨u3, d3, g3⟩ := hrm3 3 (by omega); obtain ⟨u4, d4, g4⟩ := hrm3 4 (by omega); have hlt3 : w.heap.size < w3.heap.size := (by have h9 := hB3.size; omega); have hlt4 : w.heap.size + 1 < w3.heap.size := (by have h9 := hB3.size; omega))
              refine bodyPost_ret (v := .agg #[.int .i64 (2 + c), .int .i64 0, .slice none 0 0, .int .i64 0, .slice none 0 0]) (by simp [results, Tryz.results18, go_sem, d0, d1, d2, d3, d4, hlt3]) rfl (toldPost_nil hTl'.out ?_)
              exact (((((Below.join hBw (Nat.le_refl _) hB3).setCell (p := ⟨w.heap.size, _, none⟩) (Nat.le_refl _) _).setCell (p := ⟨w.heap.size, _, none⟩) (Nat.le_refl _) _).setCell (p := ⟨w.heap.size, _, none⟩) (Nat.le_refl _) _).setCell (p := ⟨w.heap.size, _, none⟩) (Nat.le_refl _) _).setCell (p := ⟨w.heap.size, _, none⟩) (Nat.le_refl _) _ |>.alloc (by simp; omega) _
end Go.Proofs.YthnlkpifafklkaaGreatDoor

namespace Go.Proofs.YthnlkpifafklkaaGreatDoor
open Go.RowKit

theorem ba_slice (s : Bs) (i j : Nat) : (ba s).extract i j = ba ((s.drop i).take (j - i)) := by
  apply ByteArray.ext
  rw [ByteArray.data_extract]
  show s.toArray.extract i j = ((s.drop i).take (j - i)).toArray
  apply Array.ext'
  simp
theorem specRead_any (s : Bs) (w : World) (hs : s.length ≤ 1048576) : Calls Tryz.prog 18 #[.string (ba s)] w (ToldPost s w) :=
  specRead_S (ba s) s w hs (ba_size s) (fun _ _ _ => rfl) (fun i j W hij hj => by
    have hz := ba_size s
    rw [run_slice_string_if W 9 (ba s) .i64 .i64 (i : Int) (j : Int) Tryz.underlying9, if_pos ⟨by omega, by omega⟩, if_pos ⟨by omega, by omega⟩, Int.toNat_natCast, Int.toNat_natCast, ba_slice s i j])
end Go.Proofs.YthnlkpifafklkaaGreatDoor
