/-
  A row of a text, by the program.
-/
import Derived.Test.YtgdljgjamafpiaaGreatDoorItoaI
import Derived.Test.YtgdljgjamafpiaaGreatDoorWordsI
import Derived.Test.YtgdljgjamafpiaaGreatDoorSpecS
import Derived.Lib.SmallJoins
import Derived.Laws.AppendOwnNone
namespace Go.Proofs.YtgdljgjamafpiaaGreatDoor
open Go.RowKit

theorem infoParts {P : Program} {t : TypeId} {z : Value} {s b : Nat} (h : (P.info? t).map (fun i => (i.zero, i.size, i.bytes)) = some (some z, s, b)) : ∃ i, P.info? t = some i ∧ i.zero = some z ∧ i.size = s ∧ i.bytes = b := by
  cases hi : P.info? t with
  | none => rw [hi] at h; simp at h
  | some i => rw [hi] at h; simp at h; exact ⟨i, rfl, h.1, h.2.1, h.2.2⟩
theorem Tryz.infoStr : (Tryz.prog.info? 9).map (fun i => (i.zero, i.size, i.bytes)) = some (some (.string ⟨#[]⟩), 1, 16) := by kernel_rfl
theorem oneS_lie {W : World} {x : Value} {t : TypeId} : ∀ (j : Nat) (u : Value), [x][j]? = some u → (W.alloc (.cells #[x] t)).cell? ((⟨W.heap.size, 0, none⟩ : Addr).add j) = some u := by
  intro j u hj
  match j, hj with
  | 0, hj => simp at hj; subst hj; simp [Addr.add]
theorem oneS {x : ByteArray} : ∀ u ∈ [Value.string x], u.oneCell' = true := by
  intro u hu; simp only [List.mem_cons, List.not_mem_nil, or_false] at hu; rcases hu with rfl; rfl
theorem rowLater {W W' : World} {b0 : Nat} {e : TypeId} {size : Nat} {v : Value} {n : Nat} {xs : List Value} (h : W.ownsRow b0 e size v n xs) (hB : Below W.heap.size W W') : W'.ownsRow b0 e size v n xs := by
  obtain ⟨hl, h0 | ⟨g, cap, cur, hv, hb, hh, r⟩⟩ := h
  · exact ⟨hl, .inl h0⟩
  · have hg : g < W.heap.size := by
      rcases Nat.lt_or_ge g W.heap.size with h1 | h1
      · exact h1
      · rw [Array.getElem?_eq_none h1] at hh
        cases hh
    exact ⟨hl, .inr ⟨g, cap, cur, hv, hb, by rw [hB.block g hg]; exact hh, r⟩⟩
theorem wordsOf_len : ∀ k, (wordsOf k).length ≤ 4
  | 0 => by simp [wordsOf]
  | 1 => by simp [wordsOf]
  | 2 => by simp [wordsOf]
  | _ + 3 => by simp [wordsOf]

theorem joinTail_len (sep : List UInt8) : ∀ L : List (List UInt8), (∀ x ∈ L, x.length ≤ 8) → (Lib.joinTail sep L).length ≤ L.length * (sep.length + 8)
  | [], _ => by simp [Lib.joinTail]
  | x :: L, h => by
    have h1 := joinTail_len sep L (fun y hy => h y (List.mem_cons_of_mem _ hy))
    have h2 := h x (List.mem_cons_self ..)
    have h3 : (Lib.joinTail sep (x :: L)).length = sep.length + x.length + (Lib.joinTail sep L).length := by simp [Lib.joinTail]; omega
    rw [h3, List.length_cons, Nat.add_mul]; omega
theorem words_small : ∀ kd, ∀ x ∈ wordsOf kd, x.length ≤ 8
  | 0 => by simp [wordsOf]
  | 1 => by simp [wordsOf]
  | 2 => by simp [wordsOf]
  | _ + 3 => by simp [wordsOf]
theorem parts_small {kd n : Nat} {ns : Nat → Int} (h : ∀ i, i < n → 0 ≤ ns i ∧ ns i ≤ 99999999) : ∀ i, i ≤ n → ∀ x ∈ partsOf (wordsOf kd) ns i, x.length ≤ 8
  | 0, _ => by simp [partsOf]
  | i + 1, hi => by
    have h1 := parts_small (kd := kd) h i (by omega)
    have h2 := itoa_len (h i (by omega)).1 (h i (by omega)).2
    intro x hx
    unfold partsOf at hx
    split at hx
    · rename_i hw
      simp only [List.mem_append, List.mem_cons, List.not_mem_nil, or_false] at hx
      rcases hx with (hx | rfl) | rfl
      · exact h1 x hx
      · rw [List.getD_eq_getElem?_getD, List.getElem?_eq_getElem hw]
        exact words_small kd _ (List.getElem_mem hw)
      · exact h2
    · simp only [List.mem_append, List.mem_cons, List.not_mem_nil, or_false] at hx
      rcases hx with hx | rfl
      · exact h1 x hx
      · exact h2
theorem parts_join_len {kd n : Nat} {ns : Nat → Int} (h : ∀ i, i < n → 0 ≤ ns i ∧ ns i ≤ 99999999) {i : Nat} (hi : i ≤ n) (hn : n ≤ 12) : (Lib.join (partsOf (wordsOf kd) ns i) [32]).length ≤ 1000 := by
  have h1 := parts_small (kd := kd) h i hi
  have h2 := partsOf_len (wordsOf kd) ns i
  cases hp : partsOf (wordsOf kd) ns i with
  | nil => simp [Lib.join]
  | cons x L =>
    rw [hp] at h1 h2
    rw [Lib.join_cons, List.length_append]
    have h3 := joinTail_len [32] L (fun y hy => h1 y (List.mem_cons_of_mem _ hy))
    have h4 := h1 x (List.mem_cons_self ..)
    simp only [List.length_cons, List.length_nil] at *
    omega
theorem joinI_any (v : Value) (L : List (List UInt8)) (w : World) {B : Nat} (ho : w.ownsRow B 9 1 v L.length (strCells L)) (hL : L.length ≤ 1000) (hl : (Lib.join L [32]).length ≤ 1000) :
    Calls Tryz.prog 50 #[v, .string ⟨#[32]⟩] w fun e w' => e = .returned (.string (ba (Lib.join L [32]))) ∧ Below w.heap.size w w' := by
  have hmap : (L.map ba).map (·.data.toList) = L := by rw [List.map_map]; conv => rhs; rw [← List.map_id L]
                                                       apply List.map_congr_left
                                                       intro x _
                                                       exact ba_list x
  rcases ho.2 with ⟨e0, h0⟩ | ⟨g, cp, cur, e0, hb, hg, hnc, hcell⟩
  · subst e0
    have hnil : L = [] := List.eq_nil_of_length_eq_zero h0
    subst hnil
    have h : Calls Tryz.prog 50 #[.slice none 0 0, .string ⟨#[32]⟩] w fun e w' => e = .returned (.string ⟨#[]⟩) ∧ w' = w := Go.Proofs.Any.strings_Join_none Tryz.lays156 Tryz.Builder_Extra_156 none 0 ⟨#[32]⟩ w
    refine h.mono ?_
    rintro _ _ ⟨rfl, rfl⟩
    exact ⟨rfl, Below.refl _ _⟩
  · subst e0
    have hc : ∀ (j : Nat) x, (L.map ba)[j]? = some x → w.cell? ⟨g, 0 + j, none⟩ = some (.string x) := fun j x hx => by
      have hj : j < L.length := by
        have := (List.getElem?_eq_some_iff.1 hx).1
        simpa using this
      rw [Nat.zero_add, ho.cellAt j (by omega)]
      rw [List.getElem?_map] at hx
      obtain ⟨y, hy, rfl⟩ := Option.map_eq_some_iff.1 hx
      exact strCells_at L j y hy
    have h : Calls Tryz.prog 50 #[.slice (some ⟨g, 0, none⟩) (L.map ba).length cp, .string ⟨#[32]⟩] w fun e w' => e = .returned (.string ⟨(Lib.join ((L.map ba).map (·.data.toList)) [32]).toArray⟩) ∧ Below w.heap.size w w' :=
      Go.Proofs.Any.strings_Join Tryz.lays156 Tryz.Builder_Extra_156 g 0 cp (L.map ba) ⟨#[32]⟩ w hc (ho.lt g rfl).2 (by simp; omega) (by simp; omega) (by rw [hmap]; exact Nat.le_trans hl (by decide))
    rw [hmap, List.length_map] at h
    exact h
theorem parts_step {W wr w' : World} {v v' : Value} {L : List (List UInt8)} {x : List UInt8} {B : Nat} (hB : Below B W wr) (hBs : B ≤ wr.heap.size) (h : wr.ownsRow B 9 1 v L.length (strCells L))
    (ho : w'.ownsRow B 9 1 v' (L.length + 1) (strCells L ++ [.string (ba x)])) (hg : wr.grownBy w' v.ownBlock) :
    w'.ownsRow B 9 1 v' (L ++ [x]).length (strCells (L ++ [x])) ∧ Below B W w' :=
  ⟨by rw [strCells_app, List.length_append]; exact ho, hB.grown hg hBs (fun j hj => (h.lt j hj).1)⟩

set_option maxRecDepth 20000 in
set_option maxHeartbeats 8000000 in
theorem rowOf_any (kd : Nat) (ns : Nat → Int) (n : Nat) (na : Option Addr) (nc : Nat) (w : World) (hkd : kd < 4) (hn : n ≤ 12) (hns : ∀ i, i < n → 0 ≤ ns i ∧ ns i ≤ 99999999)
    (hI : IsInts 0 w.heap.size w na n ns) (hW : WordsIs w) (hTn : TenIs w) :
    Calls Tryz.prog 22 #[.int .i64 kd, .slice na n nc] w fun e w' => e = .returned (.string (ba (rowT (wordsOf kd) ns n))) ∧ Below w.heap.size w w' := by
  obtain ⟨i0, hi, hz0, hz1, hz2⟩ := infoParts Tryz.infoStr
  obtain ⟨bw, ow, cw, hw0, hwc⟩ := hW kd hkd
  have hkd' : (kd : Int) < 4 := by omega
  have hkd0 : (0 : Int) ≤ (kd : Int) := by omega
  have hwl := wordsOf_len kd
  go_enter Tryz.func22, Tryz.ntmps22
  go_wp2
  go_loopw [5, 10] (fun pp ii wr => ∃ (i : Nat), i ≤ n ∧ ii = .int .i64 i ∧ wr.ownsRow w.heap.size 9 1 pp (partsOf (wordsOf kd) ns i).length (strCells (partsOf (wordsOf kd) ns i)) ∧ Below w.heap.size w wr) (fun _ ii _ => n - (intOf ii).toNat)
  case atStart => exact ⟨0, Nat.zero_le _, rfl, World.ownsRow_nil _ _ _ _, Below.refl _ _⟩
  case round =>
    obtain ⟨i, hile, rfl, hown, hB⟩ := hrel
    have hpl := partsOf_len (wordsOf kd) ns i
    have hszW := hB.size
    by_cases hlt : i < n
    · have hi' : (i : Int) < (n : Int) := by omega
      have hi0 : (0 : Int) ≤ (i : Int) := by omega
      obtain ⟨h0, h1⟩ := hns i hlt
      obtain ⟨b, off, rfl, _, hb, q0⟩ := hI i hlt
      replace q0 := cellLater hB q0
      have v0 := cellLater hB hw0
      by_cases hiw : i < (wordsOf kd).length
      · have hiw' : (i : Int) < ((wordsOf kd).length : Int) := by omega
        obtain ⟨x, hx⟩ : ∃ x, (wordsOf kd)[i]? = some x := ⟨_, List.getElem?_eq_getElem hiw⟩
        have v1 := cellLater hB (hwc i x hx)
        have hpt : Hid (partsOf (wordsOf kd) ns (i + 1) = (partsOf (wordsOf kd) ns i ++ [x]) ++ [Lib.itoa (ns i)]) := by
          unfold Hid
          rw [partsOf, if_pos hiw]
          have : (wordsOf kd).getD i [] = x := by rw [List.getD, hx]; rfl
          rw [this]
        clear hx
        generalize partsOf (wordsOf kd) ns i = L at hown hpl hpt
        go_wp2_with (at_builtin; refine wpList_append_own _ rfl _ _ 110 rfl w.heap.size 9 i0 _ 1 16 Tryz.underlying110 hi hz0 hz1 hz2 rfl (by decide) _ _ _ rfl (hown.alloc _) ⟨wr.heap.size, 0, none⟩ 1 1 [.string (ba x)] rfl rfl oneS_lie oneS (by unfold maxLen; omega) (by omega) (by simp only [World.size_alloc]; omega) ?_)
        intro v4 w4 hown4 hgrow4 _
        obtain ⟨hown5, hB4⟩ := parts_step (x := x) (Below.join hB (Nat.le_refl _) (b1 wr (.cells #[.string (ba x)] 9))) (by simp only [World.size_alloc]; omega) (hown.alloc _) hown4 hgrow4
        have hl4 : (L ++ [x]).length ≤ 2 * i + 1 := by rw [List.length_append]; simp; omega
        have hszX := hB4.size
        generalize L ++ [x] = L4 at hown5 hpt hl4
        have hdec := itoaI_any (ns i) w4 h0 h1 (hTn.later hB4)
        clear hown4 hgrow4 hown q0 v0 v1
        go_wp2_with (first | (go_at_call 49; refine hdec.mono ?_; rintro _ w3 ⟨rfl, hB3⟩; clear hdec) | (at_builtin; refine wpList_append_own _ rfl _ _ 110 rfl w.heap.size 9 i0 _ 1 16 Tryz.underlying110 hi hz0 hz1 hz2 rfl (by decide) _ _ _ rfl ((rowLater hown5 hB3).alloc _) ⟨w3.heap.size, 0, none⟩ 1 1 [.string (ba (Lib.itoa (ns i)))] rfl rfl oneS_lie oneS (by unfold maxLen; omega) (by omega) (by have h2 := hB3.size; simp only [World.size_alloc]; omega) ?_))
        intro v' w6 hown' hgrow _
        obtain ⟨hown2, hB6⟩ := parts_step (Below.join (Below.join hB4 (Nat.le_refl _) hB3) (Nat.le_refl _) (b1 w3 (.cells #[.string (ba (Lib.itoa (ns i)))] 9))) (by have h2 := hB3.size; simp only [World.size_alloc]; omega) ((rowLater hown5 hB3).alloc _) hown' hgrow
        rw [← hpt.out] at hown2
        clear hown' hgrow hown5
        go_wp2
        go_roundw
        case rel => exact ⟨i + 1, by omega, by go_num, hown2, hB6⟩
        case measure => simp [intOf]; omega
      · have hiw' : ¬ ((i : Int) < ((wordsOf kd).length : Int)) := by omega
        have hpt : Hid (partsOf (wordsOf kd) ns (i + 1) = partsOf (wordsOf kd) ns i ++ [Lib.itoa (ns i)]) := by
          unfold Hid
          rw [partsOf, if_neg hiw]
        generalize partsOf (wordsOf kd) ns i = L at hown hpl hpt
        have hdec := itoaI_any (ns i) wr h0 h1 (hTn.later hB)
        go_wp2_with (first | (go_at_call 49; refine hdec.mono ?_; rintro _ w3 ⟨rfl, hB3⟩; clear hdec) | (at_builtin; refine wpList_append_own _ rfl _ _ 110 rfl w.heap.size 9 i0 _ 1 16 Tryz.underlying110 hi hz0 hz1 hz2 rfl (by decide) _ _ _ rfl ((rowLater hown hB3).alloc _) ⟨w3.heap.size, 0, none⟩ 1 1 [.string (ba (Lib.itoa (ns i)))] rfl rfl oneS_lie oneS (by unfold maxLen; omega) (by omega) (by have h2 := hB3.size; simp only [World.size_alloc]; omega) ?_))
        intro v' w6 hown' hgrow _
        obtain ⟨hown2, hB6⟩ := parts_step (Below.join (Below.join hB (Nat.le_refl _) hB3) (Nat.le_refl _) (b1 w3 (.cells #[.string (ba (Lib.itoa (ns i)))] 9))) (by have h2 := hB3.size; simp only [World.size_alloc]; omega) ((rowLater hown hB3).alloc _) hown' hgrow
        rw [← hpt.out] at hown2
        clear hown' hgrow hown
        go_wp2
        go_roundw
        case rel => exact ⟨i + 1, by omega, by go_num, hown2, hB6⟩
        case measure => simp [intOf]; omega
    · obtain rfl : i = n := by omega
      have hjl : (Lib.join (partsOf (wordsOf kd) ns i) [32]).length ≤ 1000 := parts_join_len hns (Nat.le_refl _) hn
      have hrt : Hid (rowT (wordsOf kd) ns i = Lib.join (partsOf (wordsOf kd) ns i) [32] ++ [10]) := rfl
      have hjn := joinI_any _ _ wr hown (by omega) hjl
      generalize partsOf (wordsOf kd) ns i = L at hown hpl hjl hrt hjn
      obtain ⟨sj, hsj⟩ : ∃ sj, sj = ba (Lib.join L [32]) := ⟨_, rfl⟩
      rw [← hsj] at hjn
      obtain ⟨r1, e1, f1⟩ := cat sj ⟨#[10]⟩ _ [10] hsj rfl (by simp; omega)
      clear hsj
      go_wp2_with (go_at_call 50; refine hjn.mono ?_; rintro _ w3 ⟨rfl, hB3⟩)
      go_ret
      exact ⟨by rw [hrt.out, ← f1.out]; rfl, Below.join hB (Nat.le_refl _) hB3⟩
end Go.Proofs.YtgdljgjamafpiaaGreatDoor
