/-
  The model's reader: a line of a text, by its number: the tracks and the gap.
  The model's reader: a line of a text, by its number: a train.
  The model's reader: a line of a text, by its number: a leg.
-/
import Derived.Test.YthnlkpifafklkaaGreatDoorGSpecA
import Derived.Test.YthnlkpifafklkaaGreatDoorGReadT
namespace Go.Proofs.YthnlkpifafklkaaGreatDoor
open Go.RowKit

theorem cutB_lens (x : Bs) : (cutB x).length ≤ x.length + 1 ∧ ∀ y ∈ cutB x, y.length ≤ x.length := by
  induction x with
  | nil => exact ⟨by simp [cutB], by simp [cutB]⟩
  | cons b t ih =>
    unfold cutB
    split
    · refine ⟨by simp; exact ih.1, fun y hy => ?_⟩
      rcases List.mem_cons.1 hy with rfl | hy
      · simp
      · have := ih.2 y hy; simp; omega
    · split
      · rename_i y ys hc
        rw [hc] at ih
        refine ⟨by have := ih.1; simp at this ⊢; omega, fun z hz => ?_⟩
        rcases List.mem_cons.1 hz with rfl | hz
        · have := ih.2 y (List.mem_cons_self ..); simp; omega
        · have := ih.2 z (List.mem_cons_of_mem _ hz); simp; omega
      · refine ⟨by simp, fun z hz => ?_⟩
        rw [List.mem_singleton] at hz; subst hz; simp
theorem likeRow (W : World) (cs : List Bs) (t : TypeId) : IsStrs (W.alloc (.cells (cs.map fun x => Value.string (ba x)).toArray t)) (some ⟨W.heap.size, 0, none⟩) cs := fun j x hx => by
  refine ⟨W.heap.size, 0, rfl, ?_⟩
  rw [Nat.zero_add, World.cell?_alloc_new]
  simp [hx]
theorem likeOwn (W : World) (cs : List Bs) (t : TypeId) (hcs : cs.length ≤ maxLen) : (W.alloc (.cells (cs.map fun x => Value.string (ba x)).toArray t)).ownsRow W.heap.size t 1 (.slice (some ⟨W.heap.size, 0, none⟩) cs.length cs.length) cs.length (strCells cs) := by
  refine ⟨by rw [strCells_len, Nat.mul_one], Or.inr ⟨W.heap.size, cs.length, _, rfl, Nat.le_refl _, Go.heap_alloc_new W _, Nat.le_refl _, hcs, by simp, ?_⟩⟩
  · simp [strCells, List.take_of_length_le]
section
variable {a a' : Option Addr} {c c' : Nat} {L M : List Bs} {w : World}
theorem l4nums_no (hL : L.length ≤ 4100) (hx : ∀ x ∈ L, x.length ≤ 4100) (hI : IsStrs w a L) (hJ : IsStrs w a' M) (h : likeB (M.map tokOf) L = none) :
    Calls Tryz.prog 74 #[.slice a L.length c, .slice a' M.length c'] w fun e w' => e = .returned (.tuple #[.slice none 0 0, .bool false]) ∧ Below w.heap.size w w' := by
  refine (l4nums_any a a' c c' L M w hL hx hI hJ).mono ?_
  rintro e w' ⟨⟨_, he⟩ | ⟨ns, v, h1, _⟩, hB⟩
  · exact ⟨he, hB⟩
  · rw [h] at h1; cases h1
theorem l4nums_yes (hL : L.length ≤ 4100) (hx : ∀ x ∈ L, x.length ≤ 4100) (hI : IsStrs w a L) (hJ : IsStrs w a' M) {ns : List Int} (h : likeB (M.map tokOf) L = some ns) :
    Calls Tryz.prog 74 #[.slice a L.length c, .slice a' M.length c'] w fun e w' => ∃ b d, e = .returned (.tuple #[.slice b ns.length d, .bool true]) ∧ w'.ownsRow w.heap.size 3 1 (.slice b ns.length d) ns.length (intCells ns) ∧ Below w.heap.size w w' := by
  refine (l4nums_any a a' c c' L M w hL hx hI hJ).mono ?_
  rintro e w' ⟨⟨h1, _⟩ | ⟨ns', v, h1, he, ho⟩, hB⟩
  · rw [h] at h1; cases h1
  · rw [h] at h1; cases h1
    obtain ⟨b, d, rfl, _⟩ := ownInts ho
    exact ⟨b, d, he, ho, hB⟩
end
theorem l4wordsF (l : Bs) (w : World) (hl : l.length ≤ 4000) : Calls Tryz.prog 73 #[.string (ba l)] w fun e w' => ∃ a c, e = .returned (.slice a (cutB l).length c) ∧ IsStrs w' a (cutB l) ∧ Below w.heap.size w w' := by
  refine (l4words_any l w hl).mono ?_
  rintro e w' ⟨v, he, ho, hB⟩
  obtain ⟨a, c, rfl, hI⟩ := ownStrs ho
  exact ⟨a, c, he, hI, hB⟩

/-- what a line of a text does to the line's box -/
def TakePost (B0 bl : Nat) (l : LnL) (x : Bs) (n : Nat) (w : World) (e : Ending) (w' : World) : Prop := (takeM l x n = none ∧ e = .returned (.bool false) ∧ Below bl w w') ∨
  ∃ tr gap L vt vT, takeM l x n = some ⟨tr, gap, L.map Prod.fst⟩ ∧ e = .returned (.bool true) ∧ LBox B0 bl w' tr gap L vt vT ∧ Below bl w w' ∧ tr.length ≤ 39 ∧ L.length ≤ n + 1 ∧ ∀ y ∈ L, y.1.legs.length ≤ n + 1

set_option maxRecDepth 20000 in
set_option maxHeartbeats 4000000 in
theorem l4take_gap (B0 bl : Nat) (x : Bs) (tr : List Int) (gap : Int) (L : List TrV) (vt vT : Value) (w : World) (hx : x.length ≤ 4000) (hLB : LBox B0 bl w tr gap L vt vT) (h1 : tr.length ≤ 39) (h2 : L.length ≤ 1) (h3 : ∀ y ∈ L, y.1.legs.length ≤ 1) :
    Calls Tryz.prog 44 #[.pointer (some ⟨bl, 0, none⟩), .string (ba x), .int .i64 1] w (TakePost B0 bl ⟨tr, gap, L.map Prod.fst⟩ x 1 w) := by
  have hwd := l4wordsF x w hx
  obtain ⟨hc1, hc2⟩ := cutB_lens x
  have hbw : bl < w.heap.size := ltCell hLB.c0
  have htk : takeM ⟨tr, gap, L.map Prod.fst⟩ x 1 = (numsM 1 x).map fun a => ⟨tr, a.getD 0 0, L.map Prod.fst⟩ := rfl
  have hmap : [[103, 97, 112], [35]].map tokOf = toksOf (wordsOf 1) := rfl
  cases hn : numsM 1 x with
  | none =>
    rw [hn] at htk
    have hN := fun W a c (hI : IsStrs W a (cutB x)) => l4nums_no (c := c) (c' := 2) (by omega) (fun y hy => by have := hc2 y hy; omega) (hI.later (b1 W (.cells ([[103, 97, 112], [35]].map fun x => Value.string (ba x)).toArray 9))) (likeRow W [[103, 97, 112], [35]] 9) (by rw [hmap]; exact hn)
    generalize ba x = X at hwd
    go_enter Tryz.func44, Tryz.ntmps44
    go_wp2_with (first | (go_at_call 73; refine hwd.mono ?_; rintro _ w2 ⟨aw, cw, rfl, hI, hB2⟩) | (go_at_call 74; refine (hN w2 aw cw hI).mono ?_; rintro _ w3 ⟨rfl, hB3⟩))
    go_ret
    exact Or.inl ⟨htk, rfl, (Below.join (Below.join hB2 (Nat.le_refl _) (b1 w2 _)) (Nat.le_refl _) hB3).mono (by omega)⟩
  | some ns =>
    rw [hn] at htk
    have hlen : ns.length = 1 := (likeB_range _ _ _ hn).1
    obtain ⟨g0, rfl⟩ : ∃ g, ns = [g] := by
      cases ns with
      | nil => simp at hlen
      | cons g t => cases t with
        | nil => exact ⟨g, rfl⟩
        | cons _ _ => simp at hlen
    have hN := fun W a c (hI : IsStrs W a (cutB x)) => l4nums_yes (c := c) (c' := 2) (by omega) (fun y hy => by have := hc2 y hy; omega) (hI.later (b1 W (.cells ([[103, 97, 112], [35]].map fun x => Value.string (ba x)).toArray 9))) (likeRow W [[103, 97, 112], [35]] 9) (ns := [g0]) (by rw [hmap]; exact hn)
    have htk' : Hid _ := htk
    clear htk hn hmap hlen
    generalize ba x = X at hwd
    go_enter Tryz.func44, Tryz.ntmps44
    go_wp2_with (first | (go_at_call 73; refine hwd.mono ?_; rintro _ w2 ⟨aw, cw, rfl, hI, hB2⟩) | (go_at_call 74; refine (hN w2 aw cw hI).mono ?_; rintro _ w3 ⟨bn, dn, rfl, hown, hB3⟩; obtain ⟨gn, cn, he⟩ := Joins.ownsRow_form hown (by simp); cases he; have n0 := ints_at hown (j := 0) (by simp); have hBB := Below.join (Below.join hB2 (Nat.le_refl _) (b1 w2 _)) (Nat.le_refl _) hB3; have hLB3 := hLB.later hBB; have y1 := hLB3.c1; have yz := hLB3.z1))
    go_ret
    exact Or.inr ⟨tr, g0, L, vt, vT, htk'.out, rfl, hLB3.gap_ g0, (show Below bl w w3 from hBB.mono (by omega)).setCell (p := ⟨bl, 1, none⟩) (Nat.le_refl _) _, h1, by omega, fun y hy => by have := h3 y hy; omega⟩

set_option maxRecDepth 20000 in
set_option maxHeartbeats 4000000 in
theorem l4take_tracks (B0 bl : Nat) (x : Bs) (gap : Int) (vt : Value) (tr : List Int) (w : World) (hx : x.length ≤ 4000) (hLB : LBox B0 bl w tr gap [] vt (.slice none 0 0)) (hB0 : B0 ≤ w.heap.size) :
    Calls Tryz.prog 44 #[.pointer (some ⟨bl, 0, none⟩), .string (ba x), .int .i64 0] w (TakePost B0 bl ⟨tr, gap, []⟩ x 0 w) := by
  have hwd := l4wordsF x w hx
  obtain ⟨hc1, hc2⟩ := cutB_lens x
  have hbw : bl < w.heap.size := ltCell hLB.c0
  obtain ⟨i0, hi, hz0, hz1, hz2⟩ := info3 Tryz.infoStr
  have htk : takeM ⟨tr, gap, []⟩ x 0 = (tracksM x).map fun a => ⟨a, gap, []⟩ := rfl
  have hmap : ∀ m, ([116, 114, 97, 99, 107, 115] :: List.replicate m [35]).map tokOf = .word (wordsOf 0)[0]! :: List.replicate m .num := fun m => by
    rw [List.map_cons, List.map_replicate]; rfl
  generalize hX : ba x = X at hwd
  go_enter Tryz.func44, Tryz.ntmps44
  go_wp2_with (first | (go_at_call 73; refine hwd.mono ?_; rintro _ w2 ⟨aw, cw, rfl, hI, hB2⟩))
  have hszw := hB2.size
  go_loopw [8] (fun ll wr => ∃ m : Nat, 1 ≤ m ∧ m + 1 ≤ max 2 (min (cutB x).length 40) ∧ wr.ownsRow w2.heap.size 9 1 ll (m + 1) (strCells ([116, 114, 97, 99, 107, 115] :: List.replicate m [35])) ∧ Below w2.heap.size w2 wr) (fun ll _ => 40 - lenOf ll)
  case atStart => exact ⟨1, Nat.le_refl _, by omega, likeOwn w2 [[116, 114, 97, 99, 107, 115], [35]] 9 (by unfold maxLen; decide), b1 _ _⟩
  case round =>
    obtain ⟨m, hm1, hm2, hown, hB⟩ := hrel
    obtain ⟨gl, cl, rfl⟩ := Joins.ownsRow_form hown (by omega)
    have hszr := hB.size
    by_cases hlt : m + 1 < (cutB x).length ∧ m + 1 < 40
    · have hl1 : (m : Int) + 1 < ((cutB x).length : Int) := by omega
      have hl2 : (m : Int) + 1 < 40 := by omega
      go_wp2_with (at_builtin; refine wpList_append_own _ rfl _ _ 114 rfl w2.heap.size 9 i0 _ 1 16 Tryz.underlying114 hi hz0 hz1 hz2 rfl (by decide) _ _ _ rfl (hown.alloc _) ⟨wr.heap.size, 0, none⟩ 1 1 [.string ⟨#[35]⟩] rfl rfl cells1_lie oneS (by unfold maxLen; omega) (by omega) (by simp only [World.size_alloc]; omega) ?_)
      intro v' w6 hown' hgrow _
      obtain ⟨g', c', rfl⟩ := Joins.ownsRow_form hown' (by omega)
      have hB6 : Below w2.heap.size w2 w6 := below_grown (Below.join hB (Nat.le_refl _) (b1 wr (.cells #[.string ⟨#[35]⟩] 9))) hgrow (by simp only [World.size_alloc]; omega) (fun j hj => (hown.lt j hj).1)
      go_wp2
      go_roundw
      case rel =>
        refine ⟨m + 1, by omega, by omega, ?_, hB6⟩
        have e : strCells ([116, 114, 97, 99, 107, 115] :: List.replicate (m + 1) [35]) = strCells ([116, 114, 97, 99, 107, 115] :: List.replicate m [35]) ++ [.string ⟨#[35]⟩] := by
          rw [List.replicate_succ', ← List.cons_append, strCells_app]; rfl
        rw [e]
        exact hown'
      case measure => simp only [lenOf]; omega
    · have hmm : m = max 1 (min (cutB x).length 40 - 1) := by omega
      have hlen : ([116, 114, 97, 99, 107, 115] :: List.replicate m ([35] : Bs)).length = m + 1 := by simp
      have hown2 : wr.ownsRow w2.heap.size 9 1 (.slice (some ⟨gl, 0, none⟩) (m + 1) cl) ([116, 114, 97, 99, 107, 115] :: List.replicate m ([35] : Bs)).length (strCells ([116, 114, 97, 99, 107, 115] :: List.replicate m [35])) := by rw [hlen]; exact hown
      obtain ⟨a9, c9, e9, hJ⟩ := ownStrs hown2
      simp only [Value.slice.injEq] at e9
      obtain ⟨rfl, _, rfl⟩ := e9
      have hcases : (¬ ((m : Int) + 1 < ((cutB x).length : Int))) ∨ ((m : Int) + 1 < ((cutB x).length : Int) ∧ ¬ ((m : Int) + 1 < 40)) := by omega
      have hLBr := hLB.later (Below.join hB2 (Nat.le_refl _) hB)
      have hBwr := Below.join hB2 (Nat.le_refl _) hB
      cases hn : tracksM x with
      | none =>
        rw [hn] at htk
        have hN := l4nums_no (c := cw) (c' := cl) (by omega) (fun y hy => by have := hc2 y hy; omega) (hI.later hB) hJ (by rw [hmap, hmm]; exact hn)
        rw [hlen] at hN
        have htk' : Hid _ := htk
        obtain ⟨q, hq⟩ : ∃ q, q = m + 1 := ⟨_, rfl⟩
        have hcq : (¬ ((q : Int) < ((cutB x).length : Int))) ∨ ((q : Int) < ((cutB x).length : Int) ∧ ¬ ((q : Int) < 40)) := by omega
        rw [← hq] at hN ⊢
        clear htk hn hmap hlen hJ hown hown2 hmm hm2 hm1 hlt hszr hszw hcases hq
        rcases hcq with hl1 | ⟨hl1, hl2⟩
        all_goals
          go_wp2_with (go_at_call 74; refine hN.mono ?_; rintro _ w3 ⟨rfl, hB3⟩; have hLB3 := hLBr.later hB3; have y1 := hLB3.c0; have yz := hLB3.z0)
          go_ret
          exact Or.inl ⟨htk'.out, rfl, (show Below bl w w3 from (Below.join hBwr (Nat.le_refl _) hB3).mono (by omega)).setCell (p := ⟨bl, 0, none⟩) (Nat.le_refl _) _⟩
      | some ns =>
        rw [hn] at htk
        have hN := l4nums_yes (c := cw) (c' := cl) (by omega) (fun y hy => by have := hc2 y hy; omega) (hI.later hB) hJ (ns := ns) (by rw [hmap, hmm]; exact hn)
        rw [hlen] at hN
        have hnl : ns.length ≤ 39 := by
          have h9 := (likeB_range _ _ _ hn).1
          have hcount : ∀ k, numCount (List.replicate k Tok.num) = k := fun k => by
            induction k with
            | zero => rfl
            | succ k ih => rw [List.replicate_succ, numCount, ih]
          rw [h9]
          show numCount (trackToks (cutB x).length) ≤ 39
          unfold trackToks
          rw [numCount, hcount]
          omega
        have htk' : Hid _ := htk
        obtain ⟨q, hq⟩ : ∃ q, q = m + 1 := ⟨_, rfl⟩
        have hcq : (¬ ((q : Int) < ((cutB x).length : Int))) ∨ ((q : Int) < ((cutB x).length : Int) ∧ ¬ ((q : Int) < 40)) := by omega
        rw [← hq] at hN ⊢
        clear htk hn hmap hlen hJ hown hown2 hmm hm2 hm1 hlt hszr hszw hcases hq
        rcases hcq with hl1 | ⟨hl1, hl2⟩
        all_goals
          go_wp2_with (go_at_call 74; refine hN.mono ?_; rintro _ w3 ⟨bn, dn, rfl, hownN, hB3⟩; have hLB3 := hLBr.later hB3; have y1 := hLB3.c0; have yz := hLB3.z0)
          go_ret
          exact Or.inr ⟨ns, gap, [], _, _, htk'.out, rfl, hLB3.tracks (Joins.ownsRow_le hownN (by have := hBwr.size; omega)), (show Below bl w w3 from (Below.join hBwr (Nat.le_refl _) hB3).mono (by omega)).setCell (p := ⟨bl, 0, none⟩) (Nat.le_refl _) _, hnl, by simp, fun y hy => absurd hy List.not_mem_nil⟩
end Go.Proofs.YthnlkpifafklkaaGreatDoor

namespace Go.Proofs.YthnlkpifafklkaaGreatDoor
open Go.RowKit

theorem four_of {ns : List Int} (h : ns.length = 4) : ∃ a b c d, ns = [a, b, c, d] := by
  match ns, h with
  | [a, b, c, d], _ => exact ⟨a, b, c, d, rfl⟩
theorem three_of {ns : List Int} (h : ns.length = 3) : ∃ a b c, ns = [a, b, c] := by
  match ns, h with
  | [a, b, c], _ => exact ⟨a, b, c, rfl⟩
theorem word0 {W : World} {a : Option Addr} {x : Bs} (hI : IsStrs W a (cutB x)) : ∃ b off y, a = some ⟨b, off, none⟩ ∧ (cutB x).head? = some y ∧ W.cell? ⟨b, off, none⟩ = some (.string (ba y)) ∧ 0 < (cutB x).length := by
  cases hc : cutB x with
  | nil => exact absurd hc (cutB_ne x)
  | cons y ys =>
    rw [hc] at hI
    obtain ⟨b, off, e, h⟩ := hI 0 y rfl
    exact ⟨b, off, y, e, rfl, h, by simp⟩
def trainLike : List Bs := [[116, 114, 97, 105, 110], [35], [114, 101, 97, 100, 121], [35], [100, 117, 101], [35], [119, 101, 105, 103, 104, 116], [35]]
theorem l4wordsG (l : Bs) (w : World) (hl : l.length ≤ 4000) {y : Bs} (hy : (cutB l).head? = some y) : Calls Tryz.prog 73 #[.string (ba l)] w fun e w' => ∃ b off c, e = .returned (.slice (some ⟨b, off, none⟩) (cutB l).length c) ∧ IsStrs w' (some ⟨b, off, none⟩) (cutB l) ∧ w'.cell? ⟨b, off, none⟩ = some (.string (ba y)) ∧ Below w.heap.size w w' := by
  refine (l4wordsF l w hl).mono ?_
  rintro e w' ⟨a, c, he, hI, hB⟩
  obtain ⟨b, off, y', rfl, h1, h2, _⟩ := word0 hI
  rw [hy] at h1
  cases h1
  exact ⟨b, off, c, he, hI, h2, hB⟩

set_option maxRecDepth 20000 in
set_option maxHeartbeats 4000000 in
theorem l4take_train (B0 bl n : Nat) (x : Bs) (tr : List Int) (gap : Int) (L : List TrV) (vt vT : Value) (w : World) (hn0 : 2 ≤ n) (hn1 : n ≤ 4100) (hx : x.length ≤ 4000) (hLB : LBox B0 bl w tr gap L vt vT) (h1 : tr.length ≤ 39) (h2 : L.length ≤ n) (h3 : ∀ y ∈ L, y.1.legs.length ≤ n) (hB0 : B0 ≤ w.heap.size)
    (hh : (cutB x).head? = some (wordsOf 2)[0]!) :
    Calls Tryz.prog 44 #[.pointer (some ⟨bl, 0, none⟩), .string (ba x), .int .i64 n] w (TakePost B0 bl ⟨tr, gap, L.map Prod.fst⟩ x n w) := by
  have hwd := l4wordsG x w hx hh
  obtain ⟨hc1, hc2⟩ := cutB_lens x
  have hbw : bl < w.heap.size := ltCell hLB.c0
  have n0 : ¬ n = 0 := by omega
  have n1 : ¬ n = 1 := by omega
  have e0 : ((n : Int) == 0) = false := by simp; omega
  have e1 : ((n : Int) == 1) = false := by simp; omega
  have hpos : (0 : Int) < ((cutB x).length : Int) := by
    have : cutB x ≠ [] := cutB_ne x
    have := List.length_pos_iff.2 this
    omega
  have htk : takeM ⟨tr, gap, L.map Prod.fst⟩ x n = (numsM 2 x).map fun a => ⟨tr, gap, L.map Prod.fst ++ [trL a]⟩ := by simp only [takeM, n0, n1, if_false, hh, if_true]
  have hmap : trainLike.map tokOf = toksOf (wordsOf 2) := rfl
  have hcmp : ((ba (wordsOf 2)[0]!).toList == [116, 114, 97, 105, 110]) = true := by rw [ba_toList]; rfl
  cases hn : numsM 2 x with
  | none =>
    rw [hn] at htk
    have hN := fun W a c (hI : IsStrs W a (cutB x)) => l4nums_no (c := c) (c' := 8) (by omega) (fun y hy => by have := hc2 y hy; omega) (hI.later (b1 W (.cells (trainLike.map fun x => Value.string (ba x)).toArray 9))) (likeRow W trainLike 9) (by rw [hmap]; exact hn)
    generalize ba x = X at hwd
    generalize ba (wordsOf 2)[0]! = TW at hcmp hwd
    have htk' : Hid _ := htk
    clear htk hmap hn hh n0 n1
    go_enter Tryz.func44, Tryz.ntmps44
    go_wp2_with (first | (go_at_call 73; refine hwd.mono ?_; rintro _ w2 ⟨bw, ow, cw, rfl, hI, hcw, hB2⟩) | (go_at_call 74; refine (hN w2 _ cw hI).mono ?_; rintro _ w3 ⟨rfl, hB3⟩))
    go_ret
    exact Or.inl ⟨htk'.out, rfl, (Below.join (Below.join hB2 (Nat.le_refl _) (b1 w2 _)) (Nat.le_refl _) hB3).mono (by omega)⟩
  | some ns =>
    rw [hn] at htk
    obtain ⟨a0, a1, a2, a3, rfl⟩ := four_of (likeB_range _ _ _ hn).1
    have hN := fun W a c (hI : IsStrs W a (cutB x)) => l4nums_yes (c := c) (c' := 8) (by omega) (fun y hy => by have := hc2 y hy; omega) (hI.later (b1 W (.cells (trainLike.map fun x => Value.string (ba x)).toArray 9))) (likeRow W trainLike 9) (ns := [a0, a1, a2, a3]) (by rw [hmap]; exact hn)
    generalize ba x = X at hwd
    generalize ba (wordsOf 2)[0]! = TW at hcmp hwd
    have htk' : Hid _ := htk
    clear htk hmap hn hh n0 n1
    obtain ⟨aT, cT, rfl, _⟩ := hLB.own.trs.trains (fun x hx => by have := h3 x hx; unfold maxLen; omega)
    obtain ⟨i0, ii, iz0, iz1, iz2⟩ := info3 Tryz.infoTrain
    go_enter Tryz.func44, Tryz.ntmps44
    go_wp2_with (first | (go_at_call 73; refine hwd.mono ?_; rintro _ w2 ⟨bw, ow, cw, rfl, hI, hcw, hB2⟩) | (go_at_call 74; refine (hN w2 _ cw hI).mono ?_; rintro _ w3 ⟨bn, dn, rfl, hownN, hB3⟩; obtain ⟨gn, cn, he⟩ := Joins.ownsRow_form hownN (by simp); cases he))
    have hBB := Below.join (Below.join hB2 (Nat.le_refl _) (b1 w2 (.cells (trainLike.map fun x => Value.string (ba x)).toArray 9))) (Nat.le_refl _) hB3
    have hLB3 := hLB.later hBB
    have k0 := ints_at hownN (j := 0) (by simp)
    have k1 := ints_at hownN (j := 1) (by simp)
    have k2 := ints_at hownN (j := 2) (by simp)
    have k3 := ints_at hownN (j := 3) (by simp)
    simp only [List.getD_cons_zero, List.getD_cons_succ] at k0 k1 k2 k3
    have hgn := hownN.lt gn rfl
    have hsz3 := hBB.size
    have hsz2 := hB2.size
    have hszA : (w2.alloc (.cells (trainLike.map fun x => Value.string (ba x)).toArray 9)).heap.size = w2.heap.size + 1 := by simp
    have hA9 := Below.join (Below.refl w3.heap.size w3).drew (Nat.le_refl _) (b1 w3.drew (.cells #[.int .i64 a0, .int .i64 a1, .int .i64 a2, .int .i64 a3, .slice none 0 0] 90))
    have hLBA := hLB3.later hA9
    obtain ⟨v', W1, hap, hown1, hgr1, _, hloc1⟩ := run_append_own_at (P := Tryz.prog) (w3.drew.alloc (.cells #[.int .i64 a0, .int .i64 a1, .int .i64 a2, .int .i64 a3, .slice none 0 0] 90)) B0 33 33 90 i0 _ 5 56 Tryz.underlying33 ii iz0 iz1 iz2 rfl (by decide) (.slice aT L.length cT) L.length (trCells L) hLBA.own.trs.row ⟨w3.heap.size, 0, none⟩ 1 1 [.int .i64 a0, .int .i64 a1, .int .i64 a2, .int .i64 a3, .slice none 0 0] rfl (fun jj u hj => by have h := cells5_lie (W := w3.drew) (x := .int .i64 a0) (y := .int .i64 a1) (z := .int .i64 a2) (p := .int .i64 a3) (q := .slice none 0 0) (t := 90) jj u hj; exact h) (TrV_one (t := ⟨a0, a1, a2, a3, []⟩)) (by unfold maxLen; omega) (by omega) (by simp; omega)
    obtain ⟨g9, c9, rfl⟩ := Joins.ownsRow_form hown1 (by omega)
    have hlvb : ∀ k, (Value.slice aT L.length cT).ownBlock = some k → k < w.heap.size := fun k hk => (hLB.own.trs.lt (Or.inl hk)).2
    have hlvB : ∀ k, (Value.slice aT L.length cT).ownBlock = some k → B0 ≤ k := fun k hk => (hLB.own.trs.lt (Or.inl hk)).1
    have hlt := hLB.lt
    have hblA := ltCell hLBA.c0
    dsimp only at hblA
    have hgnA : gn < (w3.drew.alloc (.cells #[.int .i64 a0, .int .i64 a1, .int .i64 a2, .int .i64 a3, .slice none 0 0] 90)).heap.size := by simp; omega
    have hbk : W1.heap[bl]? = _ := hgr1.block bl hblA (fun e => by have := hlvB bl e.symm; omega)
    have hgk : W1.heap[gn]? = _ := hgr1.block gn hgnA (fun e => by have := hlvb gn e.symm; omega)
    have m0 := (World.cell?_of_block (w' := W1) (a := ⟨gn, 0, none⟩) hgk).trans (cellLater hA9 k0)
    have m1 := (World.cell?_of_block (w' := W1) (a := ⟨gn, 1, none⟩) hgk).trans (cellLater hA9 k1)
    have m2 := (World.cell?_of_block (w' := W1) (a := ⟨gn, 2, none⟩) hgk).trans (cellLater hA9 k2)
    have m3 := (World.cell?_of_block (w' := W1) (a := ⟨gn, 3, none⟩) hgk).trans (cellLater hA9 k3)
    have m4 := (World.cell?_of_block (w' := W1) (a := ⟨bl, 2, none⟩) hbk).trans hLBA.c2
    have mz := (World.frozen?_of_block (w' := W1) (a := ⟨bl, 2, none⟩) hbk).trans hLBA.z2
    have q2 := hLB3.c2
    have q2' : (w3.alloc (.cells #[.int .i64 a0, .int .i64 a1, .int .i64 a2, .int .i64 a3, .slice none 0 0] 90)).cell? ⟨bl, 2, none⟩ = some (.slice aT L.length cT) := cellLater (b1 w3 _) q2
    have hap' : Hid _ := hap
    have hLB9 := hLBA.snoc (t := ⟨a0, a1, a2, a3, []⟩) (lv := .slice none 0 0) hown1 (World.ownsRow_nil _ _ _ _) (fun k hk => by simp [Value.ownBlock] at hk) hgr1 hloc1
    have hB9 : Below bl w (W1.setCell ⟨bl, 2, none⟩ (.slice (some ⟨g9, 0, none⟩) (L.length + 1) c9)) := (below_grown (show Below bl w _ from (Below.join hBB (Nat.le_refl _) hA9).mono (by omega)) hgr1 (by simp; omega) (fun k hk => by have := hlvB k hk; omega)).setCell (p := ⟨bl, 2, none⟩) (Nat.le_refl _) _
    have hne : gn ≠ bl := by omega
    have hne2 : bl ≠ gn := fun e => hne e.symm
    clear hap hown1 hgr1 hloc1 hbk hgk hownN
    have hSd : w3.drew.cell? ⟨gn, 0, none⟩ = some (.int .i64 a0) ∧ w3.drew.cell? ⟨gn, 1, none⟩ = some (.int .i64 a1) ∧ w3.drew.cell? ⟨gn, 2, none⟩ = some (.int .i64 a2) ∧ w3.drew.cell? ⟨gn, 3, none⟩ = some (.int .i64 a3) := ⟨k0, k1, k2, k3⟩
    have hSa := And.intro (cellLater hA9 k0) (And.intro (cellLater hA9 k1) (And.intro (cellLater hA9 k2) (cellLater hA9 k3)))
    have hSw := And.intro m0 (And.intro m1 (And.intro m2 m3))
    have hSf : (W1.setCell ⟨bl, 2, none⟩ (.slice (some ⟨g9, 0, none⟩) (L.length + 1) c9)).cell? ⟨gn, 0, none⟩ = some (.int .i64 a0) ∧ (W1.setCell ⟨bl, 2, none⟩ (.slice (some ⟨g9, 0, none⟩) (L.length + 1) c9)).cell? ⟨gn, 1, none⟩ = some (.int .i64 a1) ∧ (W1.setCell ⟨bl, 2, none⟩ (.slice (some ⟨g9, 0, none⟩) (L.length + 1) c9)).cell? ⟨gn, 2, none⟩ = some (.int .i64 a2) ∧ (W1.setCell ⟨bl, 2, none⟩ (.slice (some ⟨g9, 0, none⟩) (L.length + 1) c9)).cell? ⟨gn, 3, none⟩ = some (.int .i64 a3) := by
      refine ⟨?_, ?_, ?_, ?_⟩ <;> (rw [World.cell?_setCell_other _ _ _ _ (by intro e; cases e <;> exact hne rfl)]; assumption)
    refine wp_region_held_drew (S := (fun w' => w'.cell? ⟨gn, 0, none⟩ = some (.int .i64 a0) ∧ w'.cell? ⟨gn, 1, none⟩ = some (.int .i64 a1) ∧ w'.cell? ⟨gn, 2, none⟩ = some (.int .i64 a2) ∧ w'.cell? ⟨gn, 3, none⟩ = some (.int .i64 a3))) (by kernel_rfl) hSd (fun hHeld => ?_)
    refine wpAnyH_take (i := 0) (oi := { dst := some 74, op := Go.Op.move (Go.Operand.tmp 0), type := 78, pos := "l4_text.go:100", after := #[], guard := none }) (v := ?vv1_0) rfl (by kernel_rfl) (by kernel_rfl) (by kernel_rfl) (fun _ _ _ h => h) (Or.inl ⟨by rfl, ?hy1_0⟩) (by assumption) ?rest1_0
    case hy1_0 =>
      intro w hSw
      (try dsimp only at hSw)
      go_simp
      (try with_reducible rfl)
    simp only [Act.put, List.setIfInBounds_toArray, List.set_cons_zero, List.set_cons_succ]
    refine wpAnyH_take (i := 1) (oi := { dst := some 75, op := Go.Op.move (Go.Operand.tmp 0), type := 78, pos := "l4_text.go:100", after := #[], guard := none }) (v := ?vv2_1) rfl (by kernel_rfl) (by kernel_rfl) (by kernel_rfl) (fun _ _ _ h => h) (Or.inl ⟨by rfl, ?hy2_1⟩) (by assumption) ?rest2_1
    case hy2_1 =>
      intro w hSw
      (try dsimp only at hSw)
      go_simp
      (try with_reducible rfl)
    simp only [Act.put, List.setIfInBounds_toArray, List.set_cons_zero, List.set_cons_succ]
    refine wpAnyH_take (i := 2) (oi := { dst := some 76, op := Go.Op.nilCheck (Go.Operand.tmp 75), type := 0, pos := "l4_text.go:100", after := #[{ on := 1, ground := Go.Ground.data }], guard := none }) (v := ?vv3_2) rfl (by kernel_rfl) (by kernel_rfl) (by kernel_rfl) (fun _ _ _ h => h) (Or.inl ⟨by rfl, ?hy3_2⟩) (by assumption) ?rest3_2
    case hy3_2 =>
      intro w hSw
      (try dsimp only at hSw)
      go_simp
      (try with_reducible rfl)
    simp only [Act.put, List.setIfInBounds_toArray, List.set_cons_zero, List.set_cons_succ]
    refine wpAnyH_take (i := 3) (oi := { dst := some 77, op := Go.Op.fieldAddr 35 (Go.Operand.tmp 76) 2, type := 0, pos := "l4_text.go:100", after := #[{ on := 2, ground := Go.Ground.data }], guard := none }) (v := ?vv4_3) rfl (by kernel_rfl) (by kernel_rfl) (by kernel_rfl) (fun _ _ _ h => h) (Or.inl ⟨by rfl, ?hy4_3⟩) (by assumption) ?rest4_3
    case hy4_3 =>
      intro w hSw
      (try dsimp only at hSw)
      go_simp
      (try with_reducible rfl)
    simp only [Act.put, List.setIfInBounds_toArray, List.set_cons_zero, List.set_cons_succ]
    refine wpAnyH_take (i := 5) (oi := { dst := some 79, op := Go.Op.move (Go.Operand.tmp 13), type := 22, pos := "l4_text.go:100", after := #[], guard := none }) (v := ?vv5_5) rfl (by kernel_rfl) (by kernel_rfl) (by kernel_rfl) (fun _ _ _ h => h) (Or.inl ⟨by rfl, ?hy5_5⟩) (by assumption) ?rest5_5
    case hy5_5 =>
      intro w hSw
      (try dsimp only at hSw)
      go_simp
      (try with_reducible rfl)
    simp only [Act.put, List.setIfInBounds_toArray, List.set_cons_zero, List.set_cons_succ]
    refine wpAnyH_take (i := 6) (oi := { dst := some 80, op := Go.Op.indexAddr 22 (Go.Operand.tmp 79) (Go.Operand.const (Go.Value.int Go.IntKind.i64 0)), type := 0, pos := "l4_text.go:100", after := #[{ on := 5, ground := Go.Ground.data }], guard := none }) (v := ?vv6_6) rfl (by kernel_rfl) (by kernel_rfl) (by kernel_rfl) (fun _ _ _ h => h) (Or.inl ⟨by rfl, ?hy6_6⟩) (by assumption) ?rest6_6
    case hy6_6 =>
      intro w hSw
      (try dsimp only at hSw)
      go_simp
      (try with_reducible rfl)
    simp only [Act.put, List.setIfInBounds_toArray, List.set_cons_zero, List.set_cons_succ]
    refine wpAnyH_take (i := 7) (oi := { dst := some 81, op := Go.Op.load 3 (Go.Operand.tmp 80), type := 3, pos := "l4_text.go:100", after := #[{ on := 6, ground := Go.Ground.data }], guard := none }) (v := ?vv7_7) rfl (by kernel_rfl) (by kernel_rfl) (by kernel_rfl) (fun _ _ _ h => h) (Or.inl ⟨by rfl, ?hy7_7⟩) (by assumption) ?rest7_7
    case hy7_7 =>
      intro w hSw
      (try dsimp only at hSw)
      go_simp
      (try with_reducible rfl)
    simp only [Act.put, List.setIfInBounds_toArray, List.set_cons_zero, List.set_cons_succ]
    refine wpAnyH_take (i := 8) (oi := { dst := some 82, op := Go.Op.move (Go.Operand.tmp 13), type := 22, pos := "l4_text.go:100", after := #[], guard := none }) (v := ?vv8_8) rfl (by kernel_rfl) (by kernel_rfl) (by kernel_rfl) (fun _ _ _ h => h) (Or.inl ⟨by rfl, ?hy8_8⟩) (by assumption) ?rest8_8
    case hy8_8 =>
      intro w hSw
      (try dsimp only at hSw)
      go_simp
      (try with_reducible rfl)
    simp only [Act.put, List.setIfInBounds_toArray, List.set_cons_zero, List.set_cons_succ]
    refine wpAnyH_take (i := 9) (oi := { dst := some 83, op := Go.Op.indexAddr 22 (Go.Operand.tmp 82) (Go.Operand.const (Go.Value.int Go.IntKind.i64 1)), type := 0, pos := "l4_text.go:100", after := #[{ on := 8, ground := Go.Ground.data }], guard := none }) (v := ?vv9_9) rfl (by kernel_rfl) (by kernel_rfl) (by kernel_rfl) (fun _ _ _ h => h) (Or.inl ⟨by rfl, ?hy9_9⟩) (by assumption) ?rest9_9
    case hy9_9 =>
      intro w hSw
      (try dsimp only at hSw)
      go_simp
      (try with_reducible rfl)
    simp only [Act.put, List.setIfInBounds_toArray, List.set_cons_zero, List.set_cons_succ]
    refine wpAnyH_take (i := 10) (oi := { dst := some 84, op := Go.Op.load 3 (Go.Operand.tmp 83), type := 3, pos := "l4_text.go:100", after := #[{ on := 9, ground := Go.Ground.data }], guard := none }) (v := ?vv10_10) rfl (by kernel_rfl) (by kernel_rfl) (by kernel_rfl) (fun _ _ _ h => h) (Or.inl ⟨by rfl, ?hy10_10⟩) (by assumption) ?rest10_10
    case hy10_10 =>
      intro w hSw
      (try dsimp only at hSw)
      go_simp
      (try with_reducible rfl)
    simp only [Act.put, List.setIfInBounds_toArray, List.set_cons_zero, List.set_cons_succ]
    refine wpAnyH_take (i := 11) (oi := { dst := some 85, op := Go.Op.move (Go.Operand.tmp 13), type := 22, pos := "l4_text.go:100", after := #[], guard := none }) (v := ?vv11_11) rfl (by kernel_rfl) (by kernel_rfl) (by kernel_rfl) (fun _ _ _ h => h) (Or.inl ⟨by rfl, ?hy11_11⟩) (by assumption) ?rest11_11
    case hy11_11 =>
      intro w hSw
      (try dsimp only at hSw)
      go_simp
      (try with_reducible rfl)
    simp only [Act.put, List.setIfInBounds_toArray, List.set_cons_zero, List.set_cons_succ]
    refine wpAnyH_take (i := 12) (oi := { dst := some 86, op := Go.Op.indexAddr 22 (Go.Operand.tmp 85) (Go.Operand.const (Go.Value.int Go.IntKind.i64 2)), type := 0, pos := "l4_text.go:100", after := #[{ on := 11, ground := Go.Ground.data }], guard := none }) (v := ?vv12_12) rfl (by kernel_rfl) (by kernel_rfl) (by kernel_rfl) (fun _ _ _ h => h) (Or.inl ⟨by rfl, ?hy12_12⟩) (by assumption) ?rest12_12
    case hy12_12 =>
      intro w hSw
      (try dsimp only at hSw)
      go_simp
      (try with_reducible rfl)
    simp only [Act.put, List.setIfInBounds_toArray, List.set_cons_zero, List.set_cons_succ]
    refine wpAnyH_take (i := 13) (oi := { dst := some 87, op := Go.Op.load 3 (Go.Operand.tmp 86), type := 3, pos := "l4_text.go:100", after := #[{ on := 12, ground := Go.Ground.data }], guard := none }) (v := ?vv13_13) rfl (by kernel_rfl) (by kernel_rfl) (by kernel_rfl) (fun _ _ _ h => h) (Or.inl ⟨by rfl, ?hy13_13⟩) (by assumption) ?rest13_13
    case hy13_13 =>
      intro w hSw
      (try dsimp only at hSw)
      go_simp
      (try with_reducible rfl)
    simp only [Act.put, List.setIfInBounds_toArray, List.set_cons_zero, List.set_cons_succ]
    refine wpAnyH_take (i := 14) (oi := { dst := some 88, op := Go.Op.move (Go.Operand.tmp 13), type := 22, pos := "l4_text.go:100", after := #[], guard := none }) (v := ?vv14_14) rfl (by kernel_rfl) (by kernel_rfl) (by kernel_rfl) (fun _ _ _ h => h) (Or.inl ⟨by rfl, ?hy14_14⟩) (by assumption) ?rest14_14
    case hy14_14 =>
      intro w hSw
      (try dsimp only at hSw)
      go_simp
      (try with_reducible rfl)
    simp only [Act.put, List.setIfInBounds_toArray, List.set_cons_zero, List.set_cons_succ]
    refine wpAnyH_take (i := 15) (oi := { dst := some 89, op := Go.Op.indexAddr 22 (Go.Operand.tmp 88) (Go.Operand.const (Go.Value.int Go.IntKind.i64 3)), type := 0, pos := "l4_text.go:100", after := #[{ on := 14, ground := Go.Ground.data }], guard := none }) (v := ?vv15_15) rfl (by kernel_rfl) (by kernel_rfl) (by kernel_rfl) (fun _ _ _ h => h) (Or.inl ⟨by rfl, ?hy15_15⟩) (by assumption) ?rest15_15
    case hy15_15 =>
      intro w hSw
      (try dsimp only at hSw)
      go_simp
      (try with_reducible rfl)
    simp only [Act.put, List.setIfInBounds_toArray, List.set_cons_zero, List.set_cons_succ]
    refine wpAnyH_take (i := 16) (oi := { dst := some 90, op := Go.Op.load 3 (Go.Operand.tmp 89), type := 3, pos := "l4_text.go:100", after := #[{ on := 15, ground := Go.Ground.data }], guard := none }) (v := ?vv16_16) rfl (by kernel_rfl) (by kernel_rfl) (by kernel_rfl) (fun _ _ _ h => h) (Or.inl ⟨by rfl, ?hy16_16⟩) (by assumption) ?rest16_16
    case hy16_16 =>
      intro w hSw
      (try dsimp only at hSw)
      go_simp
      (try with_reducible rfl)
    simp only [Act.put, List.setIfInBounds_toArray, List.set_cons_zero, List.set_cons_succ]
    refine wpAnyH_take (i := 17) (oi := { dst := some 91, op := Go.Op.build 90 #[(0, Go.Operand.tmp 81), (1, Go.Operand.tmp 84), (2, Go.Operand.tmp 87), (3, Go.Operand.tmp 90)], type := 90, pos := "l4_text.go:100", after := #[{ on := 7, ground := Go.Ground.data }, { on := 10, ground := Go.Ground.data }, { on := 13, ground := Go.Ground.data }, { on := 16, ground := Go.Ground.data }], guard := none }) (v := ?vv17_17) rfl (by kernel_rfl) (by kernel_rfl) (by kernel_rfl) (fun _ _ _ h => h) (Or.inl ⟨by rfl, ?hy17_17⟩) (by assumption) ?rest17_17
    case hy17_17 =>
      intro w hSw
      (try dsimp only at hSw)
      go_simp
      (try with_reducible rfl)
    simp only [Act.put, List.setIfInBounds_toArray, List.set_cons_zero, List.set_cons_succ]
    refine wpAnyH_ready (rs := [4, 18]) (by kernel_rfl) (by simp) ?_
    refine AllReadyH.cons (o := { dst := some 78, op := Go.Op.load 33 (Go.Operand.tmp 77), type := 33, pos := "l4_text.go:100", after := #[{ on := 3, ground := Go.Ground.data }], guard := none }) rfl (fun K hK => ?_) (AllReadyH.cons (o := { dst := some 92, op := Go.Op.buildSlice 33 1 #[(0, Go.Operand.tmp 91)], type := 33, pos := "l4_text.go:100", after := #[{ on := 17, ground := Go.Ground.data }], guard := none }) rfl (fun K hK => ?_) AllReadyH.nil)
    go_simp
    refine hK.out _ _ hSd (fun hHeld => ?_)
    clear hK K
    (try simp only [Act.put, List.setIfInBounds_toArray, List.set_cons_zero, List.set_cons_succ])
    refine wpAnyH_ready (rs := [18]) (by kernel_rfl) (by simp) ?_
    refine AllReadyH.cons (o := { dst := some 92, op := Go.Op.buildSlice 33 1 #[(0, Go.Operand.tmp 91)], type := 33, pos := "l4_text.go:100", after := #[{ on := 17, ground := Go.Ground.data }], guard := none }) rfl (fun K hK => ?_) AllReadyH.nil
    go_simp
    refine hK.out _ _ hSa (fun hHeld => ?_)
    clear hK K
    (try simp only [Act.put, List.setIfInBounds_toArray, List.set_cons_zero, List.set_cons_succ])
    refine wpAnyH_ready (rs := [19]) (by kernel_rfl) (by simp) ?_
    refine AllReadyH.cons (o := { dst := some 93, op := Go.Op.call { callee := Go.Callee.builtin Go.Builtin.append, args := #[Go.Operand.tmp 78, Go.Operand.tmp 92], argTypes := #[33, 33] }, type := 33, pos := "l4_text.go:100", after := #[{ on := 4, ground := Go.Ground.data }, { on := 18, ground := Go.Ground.data }], guard := none }) rfl (fun K hK => ?_) AllReadyH.nil
    refine step_append_eq _ (by rfl) _ _ _ (by rfl) _ _ _ _ (by rfl) (by rfl) hap'.out ?_
    refine hK.out _ _ hSw (fun hHeld => ?_)
    clear hK K
    (try simp only [Act.put, List.setIfInBounds_toArray, List.set_cons_zero, List.set_cons_succ])
    refine wpAnyH_take (i := 20) (oi := { dst := some 94, op := Go.Op.nilCheck (Go.Operand.tmp 74), type := 0, pos := "l4_text.go:100", after := #[{ on := 0, ground := Go.Ground.data }, { on := 0, ground := Go.Ground.phase }, { on := 1, ground := Go.Ground.phase }, { on := 2, ground := Go.Ground.phase }, { on := 3, ground := Go.Ground.phase }, { on := 4, ground := Go.Ground.phase }, { on := 5, ground := Go.Ground.phase }, { on := 6, ground := Go.Ground.phase }, { on := 7, ground := Go.Ground.phase }, { on := 8, ground := Go.Ground.phase }, { on := 9, ground := Go.Ground.phase }, { on := 10, ground := Go.Ground.phase }, { on := 11, ground := Go.Ground.phase }, { on := 12, ground := Go.Ground.phase }, { on := 13, ground := Go.Ground.phase }, { on := 14, ground := Go.Ground.phase }, { on := 15, ground := Go.Ground.phase }, { on := 16, ground := Go.Ground.phase }, { on := 17, ground := Go.Ground.phase }, { on := 18, ground := Go.Ground.phase }, { on := 19, ground := Go.Ground.phase }], guard := none }) (v := ?vv18_20) rfl (by kernel_rfl) (by kernel_rfl) (by kernel_rfl) (fun _ _ _ h => h) (Or.inl ⟨by rfl, ?hy18_20⟩) (by assumption) ?rest18_20
    case hy18_20 =>
      intro w hSw
      (try dsimp only at hSw)
      go_simp
      (try with_reducible rfl)
    simp only [Act.put, List.setIfInBounds_toArray, List.set_cons_zero, List.set_cons_succ]
    refine wpAnyH_take (i := 21) (oi := { dst := some 95, op := Go.Op.fieldAddr 35 (Go.Operand.tmp 94) 2, type := 0, pos := "l4_text.go:100", after := #[{ on := 20, ground := Go.Ground.data }, { on := 0, ground := Go.Ground.phase }, { on := 1, ground := Go.Ground.phase }, { on := 2, ground := Go.Ground.phase }, { on := 3, ground := Go.Ground.phase }, { on := 4, ground := Go.Ground.phase }, { on := 5, ground := Go.Ground.phase }, { on := 6, ground := Go.Ground.phase }, { on := 7, ground := Go.Ground.phase }, { on := 8, ground := Go.Ground.phase }, { on := 9, ground := Go.Ground.phase }, { on := 10, ground := Go.Ground.phase }, { on := 11, ground := Go.Ground.phase }, { on := 12, ground := Go.Ground.phase }, { on := 13, ground := Go.Ground.phase }, { on := 14, ground := Go.Ground.phase }, { on := 15, ground := Go.Ground.phase }, { on := 16, ground := Go.Ground.phase }, { on := 17, ground := Go.Ground.phase }, { on := 18, ground := Go.Ground.phase }, { on := 19, ground := Go.Ground.phase }], guard := none }) (v := ?vv19_21) rfl (by kernel_rfl) (by kernel_rfl) (by kernel_rfl) (fun _ _ _ h => h) (Or.inl ⟨by rfl, ?hy19_21⟩) (by assumption) ?rest19_21
    case hy19_21 =>
      intro w hSw
      (try dsimp only at hSw)
      go_simp
      (try with_reducible rfl)
    simp only [Act.put, List.setIfInBounds_toArray, List.set_cons_zero, List.set_cons_succ]
    refine wpAnyH_ready (rs := [22]) (by kernel_rfl) (by simp) ?_
    refine AllReadyH.cons (o := { dst := none, op := Go.Op.store 33 (Go.Operand.tmp 95) (Go.Operand.tmp 93), type := 0, pos := "l4_text.go:100", after := #[{ on := 21, ground := Go.Ground.data }, { on := 19, ground := Go.Ground.data }, { on := 19, ground := Go.Ground.chain }, { on := 0, ground := Go.Ground.phase }, { on := 1, ground := Go.Ground.phase }, { on := 2, ground := Go.Ground.phase }, { on := 3, ground := Go.Ground.phase }, { on := 4, ground := Go.Ground.phase }, { on := 5, ground := Go.Ground.phase }, { on := 6, ground := Go.Ground.phase }, { on := 7, ground := Go.Ground.phase }, { on := 8, ground := Go.Ground.phase }, { on := 9, ground := Go.Ground.phase }, { on := 10, ground := Go.Ground.phase }, { on := 11, ground := Go.Ground.phase }, { on := 12, ground := Go.Ground.phase }, { on := 13, ground := Go.Ground.phase }, { on := 14, ground := Go.Ground.phase }, { on := 15, ground := Go.Ground.phase }, { on := 16, ground := Go.Ground.phase }, { on := 17, ground := Go.Ground.phase }, { on := 18, ground := Go.Ground.phase }, { on := 19, ground := Go.Ground.phase }], guard := none }) rfl (fun K hK => ?_) AllReadyH.nil
    go_simp
    refine hK.out _ _ hSf (fun hHeld => ?_)
    clear hK K
    (try simp only [Act.put, List.setIfInBounds_toArray, List.set_cons_zero, List.set_cons_succ])
    refine wpAnyH_done (by kernel_rfl) ?_ _
    rotate_left
    go_simp
    refine hK.out _ _ hSa (fun hHeld => ?_)
    clear hK K
    (try simp only [Act.put, List.setIfInBounds_toArray, List.set_cons_zero, List.set_cons_succ])
    refine wpAnyH_ready (rs := [4]) (by kernel_rfl) (by simp) ?_
    refine AllReadyH.cons (o := { dst := some 78, op := Go.Op.load 33 (Go.Operand.tmp 77), type := 33, pos := "l4_text.go:100", after := #[{ on := 3, ground := Go.Ground.data }], guard := none }) rfl (fun K hK => ?_) AllReadyH.nil
    go_simp
    refine hK.out _ _ hSa (fun hHeld => ?_)
    clear hK K
    (try simp only [Act.put, List.setIfInBounds_toArray, List.set_cons_zero, List.set_cons_succ])
    refine wpAnyH_ready (rs := [19]) (by kernel_rfl) (by simp) ?_
    refine AllReadyH.cons (o := { dst := some 93, op := Go.Op.call { callee := Go.Callee.builtin Go.Builtin.append, args := #[Go.Operand.tmp 78, Go.Operand.tmp 92], argTypes := #[33, 33] }, type := 33, pos := "l4_text.go:100", after := #[{ on := 4, ground := Go.Ground.data }, { on := 18, ground := Go.Ground.data }], guard := none }) rfl (fun K hK => ?_) AllReadyH.nil
    refine step_append_eq _ (by rfl) _ _ _ (by rfl) _ _ _ _ (by rfl) (by rfl) hap'.out ?_
    refine hK.out _ _ hSw (fun hHeld => ?_)
    clear hK K
    (try simp only [Act.put, List.setIfInBounds_toArray, List.set_cons_zero, List.set_cons_succ])
    refine wpAnyH_take (i := 20) (oi := { dst := some 94, op := Go.Op.nilCheck (Go.Operand.tmp 74), type := 0, pos := "l4_text.go:100", after := #[{ on := 0, ground := Go.Ground.data }, { on := 0, ground := Go.Ground.phase }, { on := 1, ground := Go.Ground.phase }, { on := 2, ground := Go.Ground.phase }, { on := 3, ground := Go.Ground.phase }, { on := 4, ground := Go.Ground.phase }, { on := 5, ground := Go.Ground.phase }, { on := 6, ground := Go.Ground.phase }, { on := 7, ground := Go.Ground.phase }, { on := 8, ground := Go.Ground.phase }, { on := 9, ground := Go.Ground.phase }, { on := 10, ground := Go.Ground.phase }, { on := 11, ground := Go.Ground.phase }, { on := 12, ground := Go.Ground.phase }, { on := 13, ground := Go.Ground.phase }, { on := 14, ground := Go.Ground.phase }, { on := 15, ground := Go.Ground.phase }, { on := 16, ground := Go.Ground.phase }, { on := 17, ground := Go.Ground.phase }, { on := 18, ground := Go.Ground.phase }, { on := 19, ground := Go.Ground.phase }], guard := none }) (v := ?vv20_20) rfl (by kernel_rfl) (by kernel_rfl) (by kernel_rfl) (fun _ _ _ h => h) (Or.inl ⟨by rfl, ?hy20_20⟩) (by assumption) ?rest20_20
    case hy20_20 =>
      intro w hSw
      (try dsimp only at hSw)
      go_simp
      (try with_reducible rfl)
    simp only [Act.put, List.setIfInBounds_toArray, List.set_cons_zero, List.set_cons_succ]
    refine wpAnyH_take (i := 21) (oi := { dst := some 95, op := Go.Op.fieldAddr 35 (Go.Operand.tmp 94) 2, type := 0, pos := "l4_text.go:100", after := #[{ on := 20, ground := Go.Ground.data }, { on := 0, ground := Go.Ground.phase }, { on := 1, ground := Go.Ground.phase }, { on := 2, ground := Go.Ground.phase }, { on := 3, ground := Go.Ground.phase }, { on := 4, ground := Go.Ground.phase }, { on := 5, ground := Go.Ground.phase }, { on := 6, ground := Go.Ground.phase }, { on := 7, ground := Go.Ground.phase }, { on := 8, ground := Go.Ground.phase }, { on := 9, ground := Go.Ground.phase }, { on := 10, ground := Go.Ground.phase }, { on := 11, ground := Go.Ground.phase }, { on := 12, ground := Go.Ground.phase }, { on := 13, ground := Go.Ground.phase }, { on := 14, ground := Go.Ground.phase }, { on := 15, ground := Go.Ground.phase }, { on := 16, ground := Go.Ground.phase }, { on := 17, ground := Go.Ground.phase }, { on := 18, ground := Go.Ground.phase }, { on := 19, ground := Go.Ground.phase }], guard := none }) (v := ?vv21_21) rfl (by kernel_rfl) (by kernel_rfl) (by kernel_rfl) (fun _ _ _ h => h) (Or.inl ⟨by rfl, ?hy21_21⟩) (by assumption) ?rest21_21
    case hy21_21 =>
      intro w hSw
      (try dsimp only at hSw)
      go_simp
      (try with_reducible rfl)
    simp only [Act.put, List.setIfInBounds_toArray, List.set_cons_zero, List.set_cons_succ]
    refine wpAnyH_ready (rs := [22]) (by kernel_rfl) (by simp) ?_
    refine AllReadyH.cons (o := { dst := none, op := Go.Op.store 33 (Go.Operand.tmp 95) (Go.Operand.tmp 93), type := 0, pos := "l4_text.go:100", after := #[{ on := 21, ground := Go.Ground.data }, { on := 19, ground := Go.Ground.data }, { on := 19, ground := Go.Ground.chain }, { on := 0, ground := Go.Ground.phase }, { on := 1, ground := Go.Ground.phase }, { on := 2, ground := Go.Ground.phase }, { on := 3, ground := Go.Ground.phase }, { on := 4, ground := Go.Ground.phase }, { on := 5, ground := Go.Ground.phase }, { on := 6, ground := Go.Ground.phase }, { on := 7, ground := Go.Ground.phase }, { on := 8, ground := Go.Ground.phase }, { on := 9, ground := Go.Ground.phase }, { on := 10, ground := Go.Ground.phase }, { on := 11, ground := Go.Ground.phase }, { on := 12, ground := Go.Ground.phase }, { on := 13, ground := Go.Ground.phase }, { on := 14, ground := Go.Ground.phase }, { on := 15, ground := Go.Ground.phase }, { on := 16, ground := Go.Ground.phase }, { on := 17, ground := Go.Ground.phase }, { on := 18, ground := Go.Ground.phase }, { on := 19, ground := Go.Ground.phase }], guard := none }) rfl (fun K hK => ?_) AllReadyH.nil
    go_simp
    refine hK.out _ _ hSf (fun hHeld => ?_)
    clear hK K
    (try simp only [Act.put, List.setIfInBounds_toArray, List.set_cons_zero, List.set_cons_succ])
    refine wpAnyH_done (by kernel_rfl) ?_ _
    all_goals
      go_wp2
      go_ret
      exact Or.inr ⟨tr, gap, L ++ [(⟨a0, a1, a2, a3, []⟩, .slice none 0 0)], vt, _, by rw [htk'.out, List.map_append]; rfl, rfl, hLB9, hB9, h1, by rw [List.length_append]; simp; omega, fun y hy => (by rcases List.mem_append.1 hy with hy | hy; have := h3 y hy; omega; rw [List.mem_singleton] at hy; subst hy; simp)⟩
end Go.Proofs.YthnlkpifafklkaaGreatDoor

namespace Go.Proofs.YthnlkpifafklkaaGreatDoor
open Go.RowKit

theorem LBox.leg {B0 bl : Nat} {W W1 : World} {tr : List Int} {gap : Int} {L : List TrV} {vt : Value} {g cap : Nat} {t : TrL} {lv lv' : Value} {n : LegD} (h : LBox B0 bl W tr gap (L ++ [(t, lv)]) vt (.slice (some ⟨g, 0, none⟩) (L.length + 1) cap))
    (ho : W1.ownsRow B0 96 3 lv' (t.legs.length + 1) (legCells t.legs ++ [.int .i64 n.to, .int .i64 n.run, .int .i64 n.stay])) (hg : W.grownBy W1 lv.ownBlock) (hloc : lv'.ownBlock = lv.ownBlock ∨ lv'.ownBlock = some W.heap.size) :
    LBox B0 bl (W1.setCell ⟨g, L.length * 5 + 4, none⟩ lv') tr gap (L ++ [(t.add n, lv')]) vt (.slice (some ⟨g, 0, none⟩) (L.length + 1) cap) := by
  have hlt := h.lt
  have hlb := ltCell h.c0
  dsimp only at hlb
  have hgB := h.own.trs.lt (k := g) (Or.inl rfl)
  have hlvB : ∀ k, lv.ownBlock = some k → B0 ≤ k := fun k hk => (h.own.trs.lt (k := k) (Or.inr ⟨(t, lv), by simp, hk⟩)).1
  have hb : (W1.setCell ⟨g, L.length * 5 + 4, none⟩ lv').heap[bl]? = W.heap[bl]? := (Below.heap_setCell W1 _ _ bl (by show bl ≠ g; omega)).trans (hg.block bl hlb (fun e => by have := hlvB bl e.symm; omega))
  have cc : ∀ o u, W.cell? ⟨bl, o, none⟩ = some u → (W1.setCell ⟨g, L.length * 5 + 4, none⟩ lv').cell? ⟨bl, o, none⟩ = some u := fun o u hu => (World.cell?_of_block (w := W) (w' := W1.setCell ⟨g, L.length * 5 + 4, none⟩ lv') (a := ⟨bl, o, none⟩) hb).trans hu
  have zz : ∀ o, W.frozen? ⟨bl, o, none⟩ = false → (W1.setCell ⟨g, L.length * 5 + 4, none⟩ lv').frozen? ⟨bl, o, none⟩ = false := fun o hu => (World.frozen?_of_block (w := W) (w' := W1.setCell ⟨g, L.length * 5 + 4, none⟩ lv') (a := ⟨bl, o, none⟩) hb).trans hu
  refine ⟨cc 0 _ h.c0, cc 1 _ h.c1, cc 2 _ h.c2, zz 0 h.z0, zz 1 h.z1, zz 2 h.z2, hlt, ⟨?_, h.own.trs.leg ho hg hloc, h.own.off, fun x hx => ?_⟩⟩
  · refine ownsRow_same h.own.ints (fun k hk => ?_)
    have h1 := h.own.off k hk
    refine (Below.heap_setCell W1 _ _ k (fun e => h1 (by rw [e]; rfl))).trans (hg.block k (h.own.ints.lt k hk).2 (fun e => h.own.offs (t, lv) (by simp) k hk e.symm))
  · rcases List.mem_append.1 hx with hx | hx
    · exact h.own.offs x (List.mem_append_left _ hx)
    · rw [List.mem_singleton] at hx; subst hx
      exact (h.own.offs (t, lv) (by simp)).loc (fun k hk => (h.own.ints.lt k hk).2) hloc
def legLike : List Bs := [[108, 101, 103], [35], [114, 117, 110], [35], [115, 116, 97, 121], [35]]
set_option maxRecDepth 20000 in
set_option maxHeartbeats 4000000 in
theorem l4take_leg (B0 bl n : Nat) (x : Bs) (tr : List Int) (gap : Int) (L : List TrV) (vt vT : Value) (w : World) (hn0 : 2 ≤ n) (hn1 : n ≤ 4100) (hx : x.length ≤ 4000) (hLB : LBox B0 bl w tr gap L vt vT) (h1 : tr.length ≤ 39) (h2 : L.length ≤ n) (h3 : ∀ y ∈ L, y.1.legs.length ≤ n)
    (hh : ¬ ((cutB x).head? = some (wordsOf 2)[0]!)) :
    Calls Tryz.prog 44 #[.pointer (some ⟨bl, 0, none⟩), .string (ba x), .int .i64 n] w (TakePost B0 bl ⟨tr, gap, L.map Prod.fst⟩ x n w) := by
  obtain ⟨y, hy⟩ : ∃ y, (cutB x).head? = some y := by
    cases hc : cutB x with
    | nil => exact absurd hc (cutB_ne x)
    | cons y ys => exact ⟨y, rfl⟩
  have hwd := l4wordsG x w hx hy
  obtain ⟨hc1, hc2⟩ := cutB_lens x
  have hbw : bl < w.heap.size := ltCell hLB.c0
  have n0 : ¬ n = 0 := by omega
  have n1 : ¬ n = 1 := by omega
  have e0 : ((n : Int) == 0) = false := by simp; omega
  have e1 : ((n : Int) == 1) = false := by simp; omega
  have hpos : (0 : Int) < ((cutB x).length : Int) := by
    have : cutB x ≠ [] := cutB_ne x
    have := List.length_pos_iff.2 this
    omega
  have htk : takeM ⟨tr, gap, L.map Prod.fst⟩ x n = (numsM 3 x).bind fun a => if L.map Prod.fst = [] then none else some ⟨tr, gap, addLeg (L.map Prod.fst) (legL a)⟩ := by simp only [takeM, n0, n1, if_false, hh]
  have hmap : legLike.map tokOf = toksOf (wordsOf 3) := rfl
  have hcmp : ((ba y).toList == [116, 114, 97, 105, 110]) = false := by
    rw [ba_toList]
    have : y ≠ [116, 114, 97, 105, 110] := fun e => hh (by rw [hy, e]; rfl)
    simpa using this
  cases hn : numsM 3 x with
  | none =>
    rw [hn] at htk
    have hN := fun W a c (hI : IsStrs W a (cutB x)) => l4nums_no (c := c) (c' := 6) (by omega) (fun y hy => by have := hc2 y hy; omega) (hI.later (b1 W (.cells (legLike.map fun x => Value.string (ba x)).toArray 9))) (likeRow W legLike 9) (by rw [hmap]; exact hn)
    generalize ba x = X at hwd
    generalize ba y = TW at hcmp hwd
    have htk' : Hid _ := htk
    clear htk hmap hn hh n0 n1 hy
    go_enter Tryz.func44, Tryz.ntmps44
    go_wp2_with (first | (go_at_call 73; refine hwd.mono ?_; rintro _ w2 ⟨bw, ow, cw, rfl, hI, hcw, hB2⟩) | (go_at_call 74; refine (hN w2 _ cw hI).mono ?_; rintro _ w3 ⟨rfl, hB3⟩))
    go_ret
    exact Or.inl ⟨htk'.out, rfl, (Below.join (Below.join hB2 (Nat.le_refl _) (b1 w2 _)) (Nat.le_refl _) hB3).mono (by omega)⟩
  | some ns =>
    rw [hn, Option.bind_some] at htk
    obtain ⟨a0, a1, a2, rfl⟩ := three_of (likeB_range _ _ _ hn).1
    have hN := fun W a c (hI : IsStrs W a (cutB x)) => l4nums_yes (c := c) (c' := 6) (by omega) (fun y hy => by have := hc2 y hy; omega) (hI.later (b1 W (.cells (legLike.map fun x => Value.string (ba x)).toArray 9))) (likeRow W legLike 9) (ns := [a0, a1, a2]) (by rw [hmap]; exact hn)
    generalize ba x = X at hwd
    generalize ba y = TW at hcmp hwd
    obtain ⟨aT, cT, rfl, _⟩ := hLB.own.trs.trains (fun x hx => by have := h3 x hx; unfold maxLen; omega)
    rcases List.eq_nil_or_concat L with rfl | ⟨L0, ⟨t, lv⟩, rfl⟩
    · have htk' : Hid _ := htk
      clear htk hmap hn hh n0 n1 hy
      go_enter Tryz.func44, Tryz.ntmps44
      go_wp2_with (first | (go_at_call 73; refine hwd.mono ?_; rintro _ w2 ⟨bw, ow, cw, rfl, hI, hcw, hB2⟩) | (go_at_call 74; refine (hN w2 _ cw hI).mono ?_; rintro _ w3 ⟨bn, dn, rfl, hownN, hB3⟩; have q2 := (hLB.later (Below.join (Below.join hB2 (Nat.le_refl _) (b1 w2 _)) (Nat.le_refl _) hB3)).c2))
      go_ret
      exact Or.inl ⟨htk'.out, rfl, (Below.join (Below.join hB2 (Nat.le_refl _) (b1 w2 _)) (Nat.le_refl _) hB3).mono (by omega)⟩
    · rw [List.concat_eq_append] at hLB h2 h3 htk ⊢
      have hll : (L0 ++ [(t, lv)]).length = L0.length + 1 := by simp
      have hlegs := hLB.own.trs.legs (t, lv) (by simp)
      obtain ⟨la, lc, e9, _⟩ := OwnLegs.legs hlegs
      dsimp only at e9
      subst e9
      have htl : t.legs.length ≤ n := h3 (t, .slice la t.legs.length lc) (by simp)
      have htk2 : takeM ⟨tr, gap, (L0 ++ [(t, Value.slice la t.legs.length lc)]).map Prod.fst⟩ x n = some ⟨tr, gap, (L0 ++ [(t.add ⟨a0, a1, a2⟩, Value.slice la t.legs.length lc)]).map Prod.fst⟩ := by
        rw [htk, List.map_append, if_neg (by simp)]
        show some (LnL.mk tr gap (addLeg (L0.map Prod.fst ++ [t]) (legL [a0, a1, a2]))) = _
        rw [addLeg_snoc, List.map_append]
        rfl
      have htk' : Hid _ := htk2
      have hfr : aT = some ⟨(aT.getD default).block, 0, none⟩ := by
        obtain ⟨gg, cc, ee⟩ := Joins.ownsRow_form hLB.own.trs.row (by rw [List.length_append]; simp)
        cases ee
        rfl
      obtain ⟨gT, rfl⟩ : ∃ gT, aT = some ⟨gT, 0, none⟩ := ⟨_, hfr⟩
      have hll : (L0 ++ [(t, Value.slice la t.legs.length lc)]).length = L0.length + 1 := by simp
      rw [hll] at hLB
      clear htk htk2 hmap hn hh n0 n1 hy hfr
      have hne0 : (((L0.length : Int) + 1) == 0) = false := by simp; omega
      go_enter Tryz.func44, Tryz.ntmps44
      go_wp2_with (first | (go_at_call 73; refine hwd.mono ?_; rintro _ w2 ⟨bw, ow, cw, rfl, hI, hcw, hB2⟩) | (go_at_call 74; refine (hN w2 _ cw hI).mono ?_; rintro _ w3 ⟨bn, dn, rfl, hownN, hB3⟩; obtain ⟨gn, cn, he⟩ := Joins.ownsRow_form hownN (by simp); cases he; have q2 := (hLB.later (Below.join (Below.join hB2 (Nat.le_refl _) (b1 w2 _)) (Nat.le_refl _) hB3)).c2))
      have hBB := Below.join (Below.join hB2 (Nat.le_refl _) (b1 w2 (.cells (legLike.map fun x => Value.string (ba x)).toArray 9))) (Nat.le_refl _) hB3
      have hLB3 := hLB.later hBB
      have k0 := ints_at hownN (j := 0) (by simp)
      have k1 := ints_at hownN (j := 1) (by simp)
      have k2 := ints_at hownN (j := 2) (by simp)
      simp only [List.getD_cons_zero, List.getD_cons_succ] at k0 k1 k2
      have hgn := hownN.lt gn rfl
      have hsz3 := hBB.size
      have hsz2 := hB2.size
      have hszA : (w2.alloc (.cells (legLike.map fun x => Value.string (ba x)).toArray 9)).heap.size = w2.heap.size + 1 := by simp
      have hgT := hLB.own.trs.lt (k := gT) (Or.inl rfl)
      have hlt := hLB.lt
      have hcat : (trCells (L0 ++ [(t, Value.slice la t.legs.length lc)]))[L0.length * 5 + 4]? = some (.slice la t.legs.length lc) := (trCells_at _ L0.length (t, .slice la t.legs.length lc) (by simp)).2.2.2.2
      have hrow3 := hLB3.own.trs.row
      rw [hll] at hrow3
      have p4 : w3.cell? ⟨gT, L0.length * 5 + 4, none⟩ = some (.slice la t.legs.length lc) := by rw [World.ownsRow.cellAt hrow3 _ (by omega)]; exact hcat
      have z4 : w3.frozen? ⟨gT, L0.length * 5 + 4, none⟩ = false := World.ownsRow.frozenAt hrow3 _
      have hA9 := Below.join ((Below.refl w3.heap.size w3).drew.drew) (Nat.le_refl _) (b1 w3.drew.drew (.cells #[.int .i64 a0, .int .i64 a1, .int .i64 a2] 96))
      have hLBA := hLB3.later hA9
      have hlegsA := hLBA.own.trs.legs (t, .slice la t.legs.length lc) (by simp)
      obtain ⟨i0, ii, iz0, iz1, iz2⟩ := info3 Tryz.infoLeg
      obtain ⟨v', W1, hap, hown1, hgr1, _, hloc1⟩ := run_append_own_at (P := Tryz.prog) (w3.drew.drew.alloc (.cells #[.int .i64 a0, .int .i64 a1, .int .i64 a2] 96)) B0 88 88 96 i0 _ 3 24 Tryz.underlying88 ii iz0 iz1 iz2 rfl (by decide) (.slice la t.legs.length lc) t.legs.length (legCells t.legs) hlegsA ⟨w3.heap.size, 0, none⟩ 1 1 [.int .i64 a0, .int .i64 a1, .int .i64 a2] rfl (fun jj u hj => by have h := cells3_lie (W := w3.drew.drew) (x := .int .i64 a0) (y := .int .i64 a1) (z := .int .i64 a2) (t := 96) jj u hj; exact h) one3 (by unfold maxLen; omega) (by omega) (by simp; omega)
      obtain ⟨g9, c9, rfl⟩ := Joins.ownsRow_form hown1 (by omega)
      have hlvb : ∀ k, (Value.slice la t.legs.length lc).ownBlock = some k → B0 ≤ k ∧ k < w.heap.size ∧ k ≠ gT := fun k hk => by
        have h8 := hLB.own.trs.lt (k := k) (Or.inr ⟨(t, .slice la t.legs.length lc), by simp, hk⟩)
        exact ⟨h8.1, h8.2, fun e => hLB.own.trs.off (t, .slice la t.legs.length lc) (by simp) k hk (by rw [e]; rfl)⟩
      have hszd : (w3.drew.drew.alloc (.cells #[.int .i64 a0, .int .i64 a1, .int .i64 a2] 96)).heap.size = w3.heap.size + 1 := by simp
      have hbk : W1.heap[gT]? = _ := hgr1.block gT (by omega) (fun e => (hlvb gT e.symm).2.2 rfl)
      have hgk : W1.heap[gn]? = _ := hgr1.block gn (by omega) (fun e => by have := hlvb gn e.symm; omega)
      have m0 := (World.cell?_of_block (w' := W1) (a := ⟨gn, 0, none⟩) hgk).trans (cellLater hA9 k0)
      have m1 := (World.cell?_of_block (w' := W1) (a := ⟨gn, 1, none⟩) hgk).trans (cellLater hA9 k1)
      have m2 := (World.cell?_of_block (w' := W1) (a := ⟨gn, 2, none⟩) hgk).trans (cellLater hA9 k2)
      have m4 := (World.cell?_of_block (w' := W1) (a := ⟨gT, L0.length * 5 + 4, none⟩) hbk).trans (cellLater hA9 p4)
      have mz := (World.frozen?_of_block (w' := W1) (a := ⟨gT, L0.length * 5 + 4, none⟩) hbk).trans ((hA9.frozen (p := ⟨gT, L0.length * 5 + 4, none⟩) (by show gT < w3.heap.size; omega)).trans z4)
      have p4' : (w3.alloc (.cells #[.int .i64 a0, .int .i64 a1, .int .i64 a2] 96)).cell? ⟨gT, L0.length * 5 + 4, none⟩ = some (.slice la t.legs.length lc) := cellLater (b1 w3 _) p4
      have hap' : Hid _ := hap
      have hne : gn ≠ gT := by omega
      have hne2 : gT ≠ gn := fun e => hne e.symm
      have hB9 : Below bl w (W1.setCell ⟨gT, L0.length * 5 + 4, none⟩ (.slice (some ⟨g9, 0, none⟩) (t.legs.length + 1) c9)) := (below_grown (show Below bl w _ from (Below.join hBB (Nat.le_refl _) hA9).mono (by omega)) hgr1 (by omega) (fun k hk => by have := hlvb k hk; omega)).setCell (p := ⟨gT, L0.length * 5 + 4, none⟩) (by show bl ≤ gT; omega) _
      have hLB9 : LBox B0 bl (W1.setCell ⟨gT, L0.length * 5 + 4, none⟩ (.slice (some ⟨g9, 0, none⟩) (t.legs.length + 1) c9)) tr gap (L0 ++ [(t.add ⟨a0, a1, a2⟩, .slice (some ⟨g9, 0, none⟩) (t.legs.length + 1) c9)]) vt (.slice (some ⟨gT, 0, none⟩) (L0.length + 1) cT) := hLBA.leg (n := ⟨a0, a1, a2⟩) hown1 hgr1 hloc1
      have hl0 : L0.length ≤ 4100 := by rw [hll] at h2; omega
      have hi0 : (0 : Int) ≤ (L0.length : Int) := by omega
      have hi1 : (L0.length : Int) < (L0.length : Int) + 1 := by omega
      have hw1 : IntKind.i64.wrap (L0.length : Int) = (L0.length : Int) := by rw [IntKind.wrap_i64]; omega
      clear hap hown1 hgr1 hloc1 hbk hgk hownN hrow3 hcat
      go_region_held3 (fun w' => w'.cell? ⟨bl, 2, none⟩ = some (.slice (some ⟨gT, 0, none⟩) (L0.length + 1) cT)) (first | go_keep) (fail)
      clear hw1 hi0 hi1 q2
      go_wp2
      have hSd : w3.drew.drew.cell? ⟨gn, 0, none⟩ = some (.int .i64 a0) ∧ w3.drew.drew.cell? ⟨gn, 1, none⟩ = some (.int .i64 a1) ∧ w3.drew.drew.cell? ⟨gn, 2, none⟩ = some (.int .i64 a2) := ⟨k0, k1, k2⟩
      have hSa := And.intro (cellLater hA9 k0) (And.intro (cellLater hA9 k1) (cellLater hA9 k2))
      have hSw := And.intro m0 (And.intro m1 m2)
      have hSf : (W1.setCell ⟨gT, L0.length * 5 + 4, none⟩ (.slice (some ⟨g9, 0, none⟩) (t.legs.length + 1) c9)).cell? ⟨gn, 0, none⟩ = some (.int .i64 a0) ∧ (W1.setCell ⟨gT, L0.length * 5 + 4, none⟩ (.slice (some ⟨g9, 0, none⟩) (t.legs.length + 1) c9)).cell? ⟨gn, 1, none⟩ = some (.int .i64 a1) ∧ (W1.setCell ⟨gT, L0.length * 5 + 4, none⟩ (.slice (some ⟨g9, 0, none⟩) (t.legs.length + 1) c9)).cell? ⟨gn, 2, none⟩ = some (.int .i64 a2) := by
        refine ⟨?_, ?_, ?_⟩ <;> (rw [World.cell?_setCell_other _ _ _ _ (by intro e; simp only [Addr.mk.injEq] at e; exact hne2 e.1)]; assumption)
      refine wp_region_held_drew (S := (fun w' => w'.cell? ⟨gn, 0, none⟩ = some (.int .i64 a0) ∧ w'.cell? ⟨gn, 1, none⟩ = some (.int .i64 a1) ∧ w'.cell? ⟨gn, 2, none⟩ = some (.int .i64 a2))) (by kernel_rfl) hSd (fun hHeld => ?_)
      refine wpAnyH_take (i := 0) (oi := { dst := some 124, op := Go.Op.move (Go.Operand.tmp 17), type := 118, pos := "l4_text.go:109", after := #[], guard := none }) (v := ?vv1_0) rfl (by kernel_rfl) (by kernel_rfl) (by kernel_rfl) (fun _ _ _ h => h) (Or.inl ⟨by rfl, ?hy1_0⟩) (by assumption) ?rest1_0
      case hy1_0 =>
        intro w hSw
        (try dsimp only at hSw)
        go_simp
        (try with_reducible rfl)
      simp only [Act.put, List.setIfInBounds_toArray, List.set_cons_zero, List.set_cons_succ]
      refine wpAnyH_take (i := 1) (oi := { dst := some 125, op := Go.Op.move (Go.Operand.tmp 17), type := 118, pos := "l4_text.go:109", after := #[], guard := none }) (v := ?vv2_1) rfl (by kernel_rfl) (by kernel_rfl) (by kernel_rfl) (fun _ _ _ h => h) (Or.inl ⟨by rfl, ?hy2_1⟩) (by assumption) ?rest2_1
      case hy2_1 =>
        intro w hSw
        (try dsimp only at hSw)
        go_simp
        (try with_reducible rfl)
      simp only [Act.put, List.setIfInBounds_toArray, List.set_cons_zero, List.set_cons_succ]
      refine wpAnyH_take (i := 2) (oi := { dst := some 126, op := Go.Op.nilCheck (Go.Operand.tmp 125), type := 0, pos := "l4_text.go:109", after := #[{ on := 1, ground := Go.Ground.data }], guard := none }) (v := ?vv3_2) rfl (by kernel_rfl) (by kernel_rfl) (by kernel_rfl) (fun _ _ _ h => h) (Or.inl ⟨by rfl, ?hy3_2⟩) (by assumption) ?rest3_2
      case hy3_2 =>
        intro w hSw
        (try dsimp only at hSw)
        go_simp
        (try with_reducible rfl)
      simp only [Act.put, List.setIfInBounds_toArray, List.set_cons_zero, List.set_cons_succ]
      refine wpAnyH_take (i := 3) (oi := { dst := some 127, op := Go.Op.fieldAddr 90 (Go.Operand.tmp 126) 4, type := 0, pos := "l4_text.go:109", after := #[{ on := 2, ground := Go.Ground.data }], guard := none }) (v := ?vv4_3) rfl (by kernel_rfl) (by kernel_rfl) (by kernel_rfl) (fun _ _ _ h => h) (Or.inl ⟨by rfl, ?hy4_3⟩) (by assumption) ?rest4_3
      case hy4_3 =>
        intro w hSw
        (try dsimp only at hSw)
        go_simp
        (try with_reducible rfl)
      simp only [Act.put, List.setIfInBounds_toArray, List.set_cons_zero, List.set_cons_succ]
      refine wpAnyH_take (i := 5) (oi := { dst := some 129, op := Go.Op.move (Go.Operand.tmp 15), type := 22, pos := "l4_text.go:109", after := #[], guard := none }) (v := ?vv5_5) rfl (by kernel_rfl) (by kernel_rfl) (by kernel_rfl) (fun _ _ _ h => h) (Or.inl ⟨by rfl, ?hy5_5⟩) (by assumption) ?rest5_5
      case hy5_5 =>
        intro w hSw
        (try dsimp only at hSw)
        go_simp
        (try with_reducible rfl)
      simp only [Act.put, List.setIfInBounds_toArray, List.set_cons_zero, List.set_cons_succ]
      refine wpAnyH_take (i := 6) (oi := { dst := some 130, op := Go.Op.indexAddr 22 (Go.Operand.tmp 129) (Go.Operand.const (Go.Value.int Go.IntKind.i64 0)), type := 0, pos := "l4_text.go:109", after := #[{ on := 5, ground := Go.Ground.data }], guard := none }) (v := ?vv6_6) rfl (by kernel_rfl) (by kernel_rfl) (by kernel_rfl) (fun _ _ _ h => h) (Or.inl ⟨by rfl, ?hy6_6⟩) (by assumption) ?rest6_6
      case hy6_6 =>
        intro w hSw
        (try dsimp only at hSw)
        go_simp
        (try with_reducible rfl)
      simp only [Act.put, List.setIfInBounds_toArray, List.set_cons_zero, List.set_cons_succ]
      refine wpAnyH_take (i := 7) (oi := { dst := some 131, op := Go.Op.load 3 (Go.Operand.tmp 130), type := 3, pos := "l4_text.go:109", after := #[{ on := 6, ground := Go.Ground.data }], guard := none }) (v := ?vv7_7) rfl (by kernel_rfl) (by kernel_rfl) (by kernel_rfl) (fun _ _ _ h => h) (Or.inl ⟨by rfl, ?hy7_7⟩) (by assumption) ?rest7_7
      case hy7_7 =>
        intro w hSw
        (try dsimp only at hSw)
        go_simp
        (try with_reducible rfl)
      simp only [Act.put, List.setIfInBounds_toArray, List.set_cons_zero, List.set_cons_succ]
      refine wpAnyH_take (i := 8) (oi := { dst := some 132, op := Go.Op.move (Go.Operand.tmp 15), type := 22, pos := "l4_text.go:109", after := #[], guard := none }) (v := ?vv8_8) rfl (by kernel_rfl) (by kernel_rfl) (by kernel_rfl) (fun _ _ _ h => h) (Or.inl ⟨by rfl, ?hy8_8⟩) (by assumption) ?rest8_8
      case hy8_8 =>
        intro w hSw
        (try dsimp only at hSw)
        go_simp
        (try with_reducible rfl)
      simp only [Act.put, List.setIfInBounds_toArray, List.set_cons_zero, List.set_cons_succ]
      refine wpAnyH_take (i := 9) (oi := { dst := some 133, op := Go.Op.indexAddr 22 (Go.Operand.tmp 132) (Go.Operand.const (Go.Value.int Go.IntKind.i64 1)), type := 0, pos := "l4_text.go:109", after := #[{ on := 8, ground := Go.Ground.data }], guard := none }) (v := ?vv9_9) rfl (by kernel_rfl) (by kernel_rfl) (by kernel_rfl) (fun _ _ _ h => h) (Or.inl ⟨by rfl, ?hy9_9⟩) (by assumption) ?rest9_9
      case hy9_9 =>
        intro w hSw
        (try dsimp only at hSw)
        go_simp
        (try with_reducible rfl)
      simp only [Act.put, List.setIfInBounds_toArray, List.set_cons_zero, List.set_cons_succ]
      refine wpAnyH_take (i := 10) (oi := { dst := some 134, op := Go.Op.load 3 (Go.Operand.tmp 133), type := 3, pos := "l4_text.go:109", after := #[{ on := 9, ground := Go.Ground.data }], guard := none }) (v := ?vv10_10) rfl (by kernel_rfl) (by kernel_rfl) (by kernel_rfl) (fun _ _ _ h => h) (Or.inl ⟨by rfl, ?hy10_10⟩) (by assumption) ?rest10_10
      case hy10_10 =>
        intro w hSw
        (try dsimp only at hSw)
        go_simp
        (try with_reducible rfl)
      simp only [Act.put, List.setIfInBounds_toArray, List.set_cons_zero, List.set_cons_succ]
      refine wpAnyH_take (i := 11) (oi := { dst := some 135, op := Go.Op.move (Go.Operand.tmp 15), type := 22, pos := "l4_text.go:109", after := #[], guard := none }) (v := ?vv11_11) rfl (by kernel_rfl) (by kernel_rfl) (by kernel_rfl) (fun _ _ _ h => h) (Or.inl ⟨by rfl, ?hy11_11⟩) (by assumption) ?rest11_11
      case hy11_11 =>
        intro w hSw
        (try dsimp only at hSw)
        go_simp
        (try with_reducible rfl)
      simp only [Act.put, List.setIfInBounds_toArray, List.set_cons_zero, List.set_cons_succ]
      refine wpAnyH_take (i := 12) (oi := { dst := some 136, op := Go.Op.indexAddr 22 (Go.Operand.tmp 135) (Go.Operand.const (Go.Value.int Go.IntKind.i64 2)), type := 0, pos := "l4_text.go:109", after := #[{ on := 11, ground := Go.Ground.data }], guard := none }) (v := ?vv12_12) rfl (by kernel_rfl) (by kernel_rfl) (by kernel_rfl) (fun _ _ _ h => h) (Or.inl ⟨by rfl, ?hy12_12⟩) (by assumption) ?rest12_12
      case hy12_12 =>
        intro w hSw
        (try dsimp only at hSw)
        go_simp
        (try with_reducible rfl)
      simp only [Act.put, List.setIfInBounds_toArray, List.set_cons_zero, List.set_cons_succ]
      refine wpAnyH_take (i := 13) (oi := { dst := some 137, op := Go.Op.load 3 (Go.Operand.tmp 136), type := 3, pos := "l4_text.go:109", after := #[{ on := 12, ground := Go.Ground.data }], guard := none }) (v := ?vv13_13) rfl (by kernel_rfl) (by kernel_rfl) (by kernel_rfl) (fun _ _ _ h => h) (Or.inl ⟨by rfl, ?hy13_13⟩) (by assumption) ?rest13_13
      case hy13_13 =>
        intro w hSw
        (try dsimp only at hSw)
        go_simp
        (try with_reducible rfl)
      simp only [Act.put, List.setIfInBounds_toArray, List.set_cons_zero, List.set_cons_succ]
      refine wpAnyH_take (i := 14) (oi := { dst := some 138, op := Go.Op.build 96 #[(0, Go.Operand.tmp 131), (1, Go.Operand.tmp 134), (2, Go.Operand.tmp 137)], type := 96, pos := "l4_text.go:109", after := #[{ on := 7, ground := Go.Ground.data }, { on := 10, ground := Go.Ground.data }, { on := 13, ground := Go.Ground.data }], guard := none }) (v := ?vv14_14) rfl (by kernel_rfl) (by kernel_rfl) (by kernel_rfl) (fun _ _ _ h => h) (Or.inl ⟨by rfl, ?hy14_14⟩) (by assumption) ?rest14_14
      case hy14_14 =>
        intro w hSw
        (try dsimp only at hSw)
        go_simp
        (try with_reducible rfl)
      simp only [Act.put, List.setIfInBounds_toArray, List.set_cons_zero, List.set_cons_succ]
      refine wpAnyH_ready (rs := [4, 15]) (by kernel_rfl) (by simp) ?_
      refine AllReadyH.cons (o := { dst := some 128, op := Go.Op.load 88 (Go.Operand.tmp 127), type := 88, pos := "l4_text.go:109", after := #[{ on := 3, ground := Go.Ground.data }], guard := none }) rfl (fun K hK => ?_) (AllReadyH.cons (o := { dst := some 139, op := Go.Op.buildSlice 88 1 #[(0, Go.Operand.tmp 138)], type := 88, pos := "l4_text.go:109", after := #[{ on := 14, ground := Go.Ground.data }], guard := none }) rfl (fun K hK => ?_) AllReadyH.nil)
      go_simp
      refine hK.out _ _ hSd (fun hHeld => ?_)
      clear hK K
      (try simp only [Act.put, List.setIfInBounds_toArray, List.set_cons_zero, List.set_cons_succ])
      refine wpAnyH_ready (rs := [15]) (by kernel_rfl) (by simp) ?_
      refine AllReadyH.cons (o := { dst := some 139, op := Go.Op.buildSlice 88 1 #[(0, Go.Operand.tmp 138)], type := 88, pos := "l4_text.go:109", after := #[{ on := 14, ground := Go.Ground.data }], guard := none }) rfl (fun K hK => ?_) AllReadyH.nil
      go_simp
      refine hK.out _ _ hSa (fun hHeld => ?_)
      clear hK K
      (try simp only [Act.put, List.setIfInBounds_toArray, List.set_cons_zero, List.set_cons_succ])
      refine wpAnyH_ready (rs := [16]) (by kernel_rfl) (by simp) ?_
      refine AllReadyH.cons (o := { dst := some 140, op := Go.Op.call { callee := Go.Callee.builtin Go.Builtin.append, args := #[Go.Operand.tmp 128, Go.Operand.tmp 139], argTypes := #[88, 88] }, type := 88, pos := "l4_text.go:109", after := #[{ on := 4, ground := Go.Ground.data }, { on := 15, ground := Go.Ground.data }], guard := none }) rfl (fun K hK => ?_) AllReadyH.nil
      refine step_append_eq _ (by rfl) _ _ _ (by rfl) _ _ _ _ (by rfl) (by rfl) hap'.out ?_
      refine hK.out _ _ hSw (fun hHeld => ?_)
      clear hK K
      (try simp only [Act.put, List.setIfInBounds_toArray, List.set_cons_zero, List.set_cons_succ])
      refine wpAnyH_take (i := 17) (oi := { dst := some 141, op := Go.Op.nilCheck (Go.Operand.tmp 124), type := 0, pos := "l4_text.go:109", after := #[{ on := 0, ground := Go.Ground.data }, { on := 0, ground := Go.Ground.phase }, { on := 1, ground := Go.Ground.phase }, { on := 2, ground := Go.Ground.phase }, { on := 3, ground := Go.Ground.phase }, { on := 4, ground := Go.Ground.phase }, { on := 5, ground := Go.Ground.phase }, { on := 6, ground := Go.Ground.phase }, { on := 7, ground := Go.Ground.phase }, { on := 8, ground := Go.Ground.phase }, { on := 9, ground := Go.Ground.phase }, { on := 10, ground := Go.Ground.phase }, { on := 11, ground := Go.Ground.phase }, { on := 12, ground := Go.Ground.phase }, { on := 13, ground := Go.Ground.phase }, { on := 14, ground := Go.Ground.phase }, { on := 15, ground := Go.Ground.phase }, { on := 16, ground := Go.Ground.phase }], guard := none }) (v := ?vv15_17) rfl (by kernel_rfl) (by kernel_rfl) (by kernel_rfl) (fun _ _ _ h => h) (Or.inl ⟨by rfl, ?hy15_17⟩) (by assumption) ?rest15_17
      case hy15_17 =>
        intro w hSw
        (try dsimp only at hSw)
        go_simp
        (try with_reducible rfl)
      simp only [Act.put, List.setIfInBounds_toArray, List.set_cons_zero, List.set_cons_succ]
      refine wpAnyH_take (i := 18) (oi := { dst := some 142, op := Go.Op.fieldAddr 90 (Go.Operand.tmp 141) 4, type := 0, pos := "l4_text.go:109", after := #[{ on := 17, ground := Go.Ground.data }, { on := 0, ground := Go.Ground.phase }, { on := 1, ground := Go.Ground.phase }, { on := 2, ground := Go.Ground.phase }, { on := 3, ground := Go.Ground.phase }, { on := 4, ground := Go.Ground.phase }, { on := 5, ground := Go.Ground.phase }, { on := 6, ground := Go.Ground.phase }, { on := 7, ground := Go.Ground.phase }, { on := 8, ground := Go.Ground.phase }, { on := 9, ground := Go.Ground.phase }, { on := 10, ground := Go.Ground.phase }, { on := 11, ground := Go.Ground.phase }, { on := 12, ground := Go.Ground.phase }, { on := 13, ground := Go.Ground.phase }, { on := 14, ground := Go.Ground.phase }, { on := 15, ground := Go.Ground.phase }, { on := 16, ground := Go.Ground.phase }], guard := none }) (v := ?vv16_18) rfl (by kernel_rfl) (by kernel_rfl) (by kernel_rfl) (fun _ _ _ h => h) (Or.inl ⟨by rfl, ?hy16_18⟩) (by assumption) ?rest16_18
      case hy16_18 =>
        intro w hSw
        (try dsimp only at hSw)
        go_simp
        (try with_reducible rfl)
      simp only [Act.put, List.setIfInBounds_toArray, List.set_cons_zero, List.set_cons_succ]
      refine wpAnyH_ready (rs := [19]) (by kernel_rfl) (by simp) ?_
      refine AllReadyH.cons (o := { dst := none, op := Go.Op.store 88 (Go.Operand.tmp 142) (Go.Operand.tmp 140), type := 0, pos := "l4_text.go:109", after := #[{ on := 18, ground := Go.Ground.data }, { on := 16, ground := Go.Ground.data }, { on := 16, ground := Go.Ground.chain }, { on := 0, ground := Go.Ground.phase }, { on := 1, ground := Go.Ground.phase }, { on := 2, ground := Go.Ground.phase }, { on := 3, ground := Go.Ground.phase }, { on := 4, ground := Go.Ground.phase }, { on := 5, ground := Go.Ground.phase }, { on := 6, ground := Go.Ground.phase }, { on := 7, ground := Go.Ground.phase }, { on := 8, ground := Go.Ground.phase }, { on := 9, ground := Go.Ground.phase }, { on := 10, ground := Go.Ground.phase }, { on := 11, ground := Go.Ground.phase }, { on := 12, ground := Go.Ground.phase }, { on := 13, ground := Go.Ground.phase }, { on := 14, ground := Go.Ground.phase }, { on := 15, ground := Go.Ground.phase }, { on := 16, ground := Go.Ground.phase }], guard := none }) rfl (fun K hK => ?_) AllReadyH.nil
      go_simp
      refine hK.out _ _ hSf (fun hHeld => ?_)
      clear hK K
      (try simp only [Act.put, List.setIfInBounds_toArray, List.set_cons_zero, List.set_cons_succ])
      refine wpAnyH_done (by kernel_rfl) ?_ _
      rotate_left
      go_simp
      refine hK.out _ _ hSa (fun hHeld => ?_)
      clear hK K
      (try simp only [Act.put, List.setIfInBounds_toArray, List.set_cons_zero, List.set_cons_succ])
      refine wpAnyH_ready (rs := [4]) (by kernel_rfl) (by simp) ?_
      refine AllReadyH.cons (o := { dst := some 128, op := Go.Op.load 88 (Go.Operand.tmp 127), type := 88, pos := "l4_text.go:109", after := #[{ on := 3, ground := Go.Ground.data }], guard := none }) rfl (fun K hK => ?_) AllReadyH.nil
      go_simp
      refine hK.out _ _ hSa (fun hHeld => ?_)
      clear hK K
      (try simp only [Act.put, List.setIfInBounds_toArray, List.set_cons_zero, List.set_cons_succ])
      refine wpAnyH_ready (rs := [16]) (by kernel_rfl) (by simp) ?_
      refine AllReadyH.cons (o := { dst := some 140, op := Go.Op.call { callee := Go.Callee.builtin Go.Builtin.append, args := #[Go.Operand.tmp 128, Go.Operand.tmp 139], argTypes := #[88, 88] }, type := 88, pos := "l4_text.go:109", after := #[{ on := 4, ground := Go.Ground.data }, { on := 15, ground := Go.Ground.data }], guard := none }) rfl (fun K hK => ?_) AllReadyH.nil
      refine step_append_eq _ (by rfl) _ _ _ (by rfl) _ _ _ _ (by rfl) (by rfl) hap'.out ?_
      refine hK.out _ _ hSw (fun hHeld => ?_)
      clear hK K
      (try simp only [Act.put, List.setIfInBounds_toArray, List.set_cons_zero, List.set_cons_succ])
      refine wpAnyH_take (i := 17) (oi := { dst := some 141, op := Go.Op.nilCheck (Go.Operand.tmp 124), type := 0, pos := "l4_text.go:109", after := #[{ on := 0, ground := Go.Ground.data }, { on := 0, ground := Go.Ground.phase }, { on := 1, ground := Go.Ground.phase }, { on := 2, ground := Go.Ground.phase }, { on := 3, ground := Go.Ground.phase }, { on := 4, ground := Go.Ground.phase }, { on := 5, ground := Go.Ground.phase }, { on := 6, ground := Go.Ground.phase }, { on := 7, ground := Go.Ground.phase }, { on := 8, ground := Go.Ground.phase }, { on := 9, ground := Go.Ground.phase }, { on := 10, ground := Go.Ground.phase }, { on := 11, ground := Go.Ground.phase }, { on := 12, ground := Go.Ground.phase }, { on := 13, ground := Go.Ground.phase }, { on := 14, ground := Go.Ground.phase }, { on := 15, ground := Go.Ground.phase }, { on := 16, ground := Go.Ground.phase }], guard := none }) (v := ?vv17_17) rfl (by kernel_rfl) (by kernel_rfl) (by kernel_rfl) (fun _ _ _ h => h) (Or.inl ⟨by rfl, ?hy17_17⟩) (by assumption) ?rest17_17
      case hy17_17 =>
        intro w hSw
        (try dsimp only at hSw)
        go_simp
        (try with_reducible rfl)
      simp only [Act.put, List.setIfInBounds_toArray, List.set_cons_zero, List.set_cons_succ]
      refine wpAnyH_take (i := 18) (oi := { dst := some 142, op := Go.Op.fieldAddr 90 (Go.Operand.tmp 141) 4, type := 0, pos := "l4_text.go:109", after := #[{ on := 17, ground := Go.Ground.data }, { on := 0, ground := Go.Ground.phase }, { on := 1, ground := Go.Ground.phase }, { on := 2, ground := Go.Ground.phase }, { on := 3, ground := Go.Ground.phase }, { on := 4, ground := Go.Ground.phase }, { on := 5, ground := Go.Ground.phase }, { on := 6, ground := Go.Ground.phase }, { on := 7, ground := Go.Ground.phase }, { on := 8, ground := Go.Ground.phase }, { on := 9, ground := Go.Ground.phase }, { on := 10, ground := Go.Ground.phase }, { on := 11, ground := Go.Ground.phase }, { on := 12, ground := Go.Ground.phase }, { on := 13, ground := Go.Ground.phase }, { on := 14, ground := Go.Ground.phase }, { on := 15, ground := Go.Ground.phase }, { on := 16, ground := Go.Ground.phase }], guard := none }) (v := ?vv18_18) rfl (by kernel_rfl) (by kernel_rfl) (by kernel_rfl) (fun _ _ _ h => h) (Or.inl ⟨by rfl, ?hy18_18⟩) (by assumption) ?rest18_18
      case hy18_18 =>
        intro w hSw
        (try dsimp only at hSw)
        go_simp
        (try with_reducible rfl)
      simp only [Act.put, List.setIfInBounds_toArray, List.set_cons_zero, List.set_cons_succ]
      refine wpAnyH_ready (rs := [19]) (by kernel_rfl) (by simp) ?_
      refine AllReadyH.cons (o := { dst := none, op := Go.Op.store 88 (Go.Operand.tmp 142) (Go.Operand.tmp 140), type := 0, pos := "l4_text.go:109", after := #[{ on := 18, ground := Go.Ground.data }, { on := 16, ground := Go.Ground.data }, { on := 16, ground := Go.Ground.chain }, { on := 0, ground := Go.Ground.phase }, { on := 1, ground := Go.Ground.phase }, { on := 2, ground := Go.Ground.phase }, { on := 3, ground := Go.Ground.phase }, { on := 4, ground := Go.Ground.phase }, { on := 5, ground := Go.Ground.phase }, { on := 6, ground := Go.Ground.phase }, { on := 7, ground := Go.Ground.phase }, { on := 8, ground := Go.Ground.phase }, { on := 9, ground := Go.Ground.phase }, { on := 10, ground := Go.Ground.phase }, { on := 11, ground := Go.Ground.phase }, { on := 12, ground := Go.Ground.phase }, { on := 13, ground := Go.Ground.phase }, { on := 14, ground := Go.Ground.phase }, { on := 15, ground := Go.Ground.phase }, { on := 16, ground := Go.Ground.phase }], guard := none }) rfl (fun K hK => ?_) AllReadyH.nil
      go_simp
      refine hK.out _ _ hSf (fun hHeld => ?_)
      clear hK K
      (try simp only [Act.put, List.setIfInBounds_toArray, List.set_cons_zero, List.set_cons_succ])
      refine wpAnyH_done (by kernel_rfl) ?_ _
      all_goals
        go_wp2
        go_ret
        exact Or.inr ⟨tr, gap, L0 ++ [(t.add ⟨a0, a1, a2⟩, .slice (some ⟨g9, 0, none⟩) (t.legs.length + 1) c9)], vt, _, by rw [htk'.out, List.map_append, List.map_append]; rfl, rfl, hLB9, hB9, h1, by rw [List.length_append]; simp; omega, fun y hy => (by rcases List.mem_append.1 hy with hy | hy; have := h3 y (List.mem_append_left _ hy); omega; rw [List.mem_singleton] at hy; subst hy; show (t.legs ++ [_]).length ≤ _; rw [List.length_append]; simp; omega)⟩
end Go.Proofs.YthnlkpifafklkaaGreatDoor
