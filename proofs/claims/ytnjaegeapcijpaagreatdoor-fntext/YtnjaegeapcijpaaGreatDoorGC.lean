/-
  A line is read back from its text: plain.
  The program's reader: a number.
  A line of a call's own, in its box; how worlds go on.
  The program's reader: words with a number behind each.
  The program's reader: the row of tracks.
  The program's reader: how many numbers a row has, and how great they are; a train's box.
-/
import Derived.Test.YtnjaegeapcijpaaGreatDoorGB
import Derived.Test.YtnjaegeapcijpaaGreatDoorGA
namespace Go.Proofs.YtnjaegeapcijpaaGreatDoor
open Go.RowKit

theorem natVal_digits (u : Nat) : natVal 0 (Lib.decDigits u) = u := by
  have hdig : ∀ k, k < 10 → (UInt8.ofNat (48 + k)).toNat - 48 = k := by decide
  induction u using Nat.strongRecOn with
  | _ u ih =>
    by_cases h : u < 10
    · rw [Lib.decDigits_one h]
      show 0 * 10 + ((UInt8.ofNat (48 + u)).toNat - 48) = u
      rw [hdig u h]; omega
    · rw [Lib.decDigits, dif_neg h, natVal_snoc, ih (u / 10) (by omega), hdig (u % 10) (by omega)]
      omega
theorem numVal_itoa {v : Int} (h0 : 0 ≤ v) : numVal (Lib.itoa v) = v := by
  unfold Lib.itoa
  rw [if_neg (by omega), numVal_nat _ (decDigits_good _).1, natVal_digits]
  omega
theorem itoa_free {v : Int} (h0 : 0 ≤ v) : Free (Lib.itoa v) := by
  intro b hb
  unfold Lib.itoa at hb
  rw [if_neg (by omega)] at hb
  have := List.all_eq_true.1 (decDigits_good v.toNat).1 b hb
  exact dig_free this
theorem tokOk_itoa {v : Int} (h0 : 0 ≤ v) (h1 : v ≤ 9999999) : tokOk .num (Lib.itoa v) = some [v] := by rw [tokOk_num, numOk_itoa h0 h1, if_pos rfl, numVal_itoa h0]
theorem cutB_one {x : Bs} (h : Free x) : cutB x = [x] := by
  induction x with
  | nil => rfl
  | cons b t ih =>
    rw [cutB, if_neg (h b (by simp)).1, ih (fun c hc => h c (by simp [hc]))]
theorem cutB_word {x t : Bs} (h : Free x) : cutB (x ++ 32 :: t) = x :: cutB t := by
  induction x with
  | nil => rw [List.nil_append, cutB, if_pos rfl]
  | cons b y ih =>
    rw [List.cons_append, cutB, if_neg (h b (by simp)).1, ih (fun c hc => h c (by simp [hc]))]
theorem cutN_rest {r : Bs} (h : 10 ∉ r) : cutN r = ([], r) := by
  induction r with
  | nil => rfl
  | cons b t ih =>
    rw [cutN, if_neg (fun e => h (by simp [e])), ih (fun e => h (by simp [e]))]
theorem cutN_line {x t : Bs} (h : ∀ b ∈ x, b ≠ 10) : cutN (x ++ 10 :: t) = (x :: (cutN t).1, (cutN t).2) := by
  induction x with
  | nil => rw [List.nil_append, cutN, if_pos rfl]
  | cons b y ih =>
    rw [List.cons_append, cutN, if_neg (h b (by simp)), ih (fun c hc => h c (by simp [hc]))]
theorem cutN_unl (xs : List Bs) (h : ∀ x ∈ xs, ∀ b ∈ x, b ≠ 10) : cutN (unl xs []) = (xs, []) := by
  induction xs with
  | nil => rfl
  | cons x xs ih => rw [unl, cutN_line (h x (by simp)), ih (fun y hy => h y (by simp [hy]))]
theorem unl_app (xs ys : List Bs) : unl (xs ++ ys) [] = unl xs [] ++ unl ys [] := by
  induction xs with
  | nil => rfl
  | cons x xs ih => rw [List.cons_append, unl, unl, ih]; simp

def legR (x : LegD) : Bs := [108, 101, 103] ++ 32 :: (Lib.itoa x.to ++ 32 :: ([114, 117, 110] ++ 32 :: (Lib.itoa x.run ++ 32 :: ([115, 116, 97, 121] ++ 32 :: Lib.itoa x.stay))))
def trainR (t : TrainD) : Bs := [116, 114, 97, 105, 110] ++ 32 :: (Lib.itoa t.frm ++ 32 :: ([114, 101, 97, 100, 121] ++ 32 :: (Lib.itoa t.ready ++ 32 :: ([100, 117, 101] ++ 32 :: (Lib.itoa t.due ++ 32 :: ([119, 101, 105, 103, 104, 116] ++ 32 :: Lib.itoa t.weight))))))
def gapR (gap : Int) : Bs := [103, 97, 112] ++ 32 :: Lib.itoa gap
def legsR (t : TrainD) : Nat → List Bs
  | 0 => []
  | m + 1 => legsR t m ++ [legR (t.leg m)]
def trainsR (f : Nat → TrainD) : Nat → List Bs
  | 0 => []
  | j + 1 => trainsR f j ++ (trainR (f j) :: legsR (f j) (f j).nl)
theorem legT_R (x : LegD) : legT x = legR x ++ [10] := by simp [legT, legR]
theorem trainT_R (t : TrainD) : trainT t = trainR t ++ [10] := by simp [trainT, trainR]
theorem legsT_R (t : TrainD) (b : Bs) : ∀ m, legsT t b m = b ++ unl (legsR t m) []
  | 0 => by simp [legsT, legsR, unl]
  | m + 1 => by rw [legsT, legsR, legsT_R t b m, unl_app, legT_R]; simp [unl]
theorem trainsT_R (f : Nat → TrainD) (b : Bs) : ∀ n, trainsT f b n = b ++ unl (trainsR f n) []
  | 0 => by simp [trainsT, trainsR, unl]
  | n + 1 => by rw [trainsT, legsT_R, trainsT_R f b n, trainsR, unl_app, trainT_R]; simp [unl]
theorem lineT_R (len : Nat) (g : Nat → Int) (gap : Int) (np : Nat) (f : Nat → TrainD) : lineT len g gap np f = unl (tracksT g len :: gapR gap :: trainsR f np) [] := by
  rw [lineT, trainsT_R]; simp [headT, gapT, gapR, unl]
/-- so far read -/
def Steps (l : LnL) (n : Nat) (xs : List Bs) (l' : LnL) : Prop := ∀ ys r, goM l n (xs ++ ys) r = goM l' (n + xs.length) ys r
theorem Steps.nil (l : LnL) (n : Nat) : Steps l n [] l := fun _ _ => rfl
theorem Steps.one {l l' : LnL} {n : Nat} {x : Bs} (h : takeM l x n = some l') : Steps l n [x] l' := fun ys r => by
  rw [List.singleton_append, goM, h]; rfl
theorem Steps.app {l l' l'' : LnL} {n : Nat} {xs ys : List Bs} (h : Steps l n xs l') (h' : Steps l' (n + xs.length) ys l'') : Steps l n (xs ++ ys) l'' := fun zs r => by
  rw [List.append_assoc, h, h', List.length_append, Nat.add_assoc]
theorem free_lit {x : Bs} (h : x.all (fun b => decide (b ≠ 32) && decide (b ≠ 10)) = true) : Free x := fun b hb => by
  have := List.all_eq_true.1 h b hb
  simpa using this
theorem cut_leg {x : LegD} (h0 : 0 ≤ x.to) (h1 : 0 ≤ x.run) (h2 : 0 ≤ x.stay) : cutB (legR x) = [[108, 101, 103], Lib.itoa x.to, [114, 117, 110], Lib.itoa x.run, [115, 116, 97, 121], Lib.itoa x.stay] := by
  unfold legR
  rw [cutB_word (free_lit (by decide)), cutB_word (itoa_free h0), cutB_word (free_lit (by decide)), cutB_word (itoa_free h1), cutB_word (free_lit (by decide)), cutB_one (itoa_free h2)]
theorem cut_train {t : TrainD} (h0 : 0 ≤ t.frm) (h1 : 0 ≤ t.ready) (h2 : 0 ≤ t.due) (h3 : 0 ≤ t.weight) : cutB (trainR t) = [[116, 114, 97, 105, 110], Lib.itoa t.frm, [114, 101, 97, 100, 121], Lib.itoa t.ready, [100, 117, 101], Lib.itoa t.due, [119, 101, 105, 103, 104, 116], Lib.itoa t.weight] := by
  unfold trainR
  rw [cutB_word (free_lit (by decide)), cutB_word (itoa_free h0), cutB_word (free_lit (by decide)), cutB_word (itoa_free h1), cutB_word (free_lit (by decide)), cutB_word (itoa_free h2), cutB_word (free_lit (by decide)), cutB_one (itoa_free h3)]
theorem cut_gap {v : Int} (h0 : 0 ≤ v) : cutB (gapR v) = [[103, 97, 112], Lib.itoa v] := by
  unfold gapR
  rw [cutB_word (free_lit (by decide)), cutB_one (itoa_free h0)]
theorem tokOk_self (w : Bs) : tokOk (.word w) w = some [] := by rw [tokOk_word, if_pos rfl]
theorem take_leg {l : LnL} {n : Nat} (hn : 2 ≤ n) {ts : List TrL} {t : TrL} (hl : l.trains = ts ++ [t]) {x : LegD} (h0 : 0 ≤ x.to ∧ x.to ≤ 9999999) (h1 : 0 ≤ x.run ∧ x.run ≤ 9999999) (h2 : 0 ≤ x.stay ∧ x.stay ≤ 9999999) : takeM l (legR x) n = some { l with trains := ts ++ [t.add x] } := by
  have hc := cut_leg h0.1 h1.1 h2.1
  unfold takeM numsM
  rw [if_neg (by omega), if_neg (by omega), hc, if_neg (by rw [List.head?_cons]; decide)]
  show (likeB [.word [108, 101, 103], .num, .word [114, 117, 110], .num, .word [115, 116, 97, 121], .num] _).bind _ = _
  simp only [likeB, tokOk_self, tokOk_itoa h0.1 h0.2, tokOk_itoa h1.1 h1.2, tokOk_itoa h2.1 h2.2, Option.bind_some, Option.map_some, List.nil_append, List.cons_append]
  rw [if_neg (by rw [hl]; simp), hl, addLeg_snoc]
  rfl
theorem take_train {l : LnL} {n : Nat} (hn : 2 ≤ n) {t : TrainD} (h0 : 0 ≤ t.frm ∧ t.frm ≤ 9999999) (h1 : 0 ≤ t.ready ∧ t.ready ≤ 9999999) (h2 : 0 ≤ t.due ∧ t.due ≤ 9999999) (h3 : 0 ≤ t.weight ∧ t.weight ≤ 9999999) : takeM l (trainR t) n = some { l with trains := l.trains ++ [⟨t.frm, t.ready, t.due, t.weight, []⟩] } := by
  have hc := cut_train h0.1 h1.1 h2.1 h3.1
  unfold takeM numsM
  rw [if_neg (by omega), if_neg (by omega), hc, if_pos (by rw [List.head?_cons]; rfl)]
  show (likeB [.word [116, 114, 97, 105, 110], .num, .word [114, 101, 97, 100, 121], .num, .word [100, 117, 101], .num, .word [119, 101, 105, 103, 104, 116], .num] _).map _ = _
  simp only [likeB, tokOk_self, tokOk_itoa h0.1 h0.2, tokOk_itoa h1.1 h1.2, tokOk_itoa h2.1 h2.2, tokOk_itoa h3.1 h3.2, Option.bind_some, Option.map_some, List.nil_append, List.cons_append]
  rfl
theorem take_gap {l : LnL} {v : Int} (h0 : 0 ≤ v ∧ v ≤ 9999999) : takeM l (gapR v) 1 = some { l with gap := v } := by
  unfold takeM numsM
  rw [if_neg (by omega), if_pos rfl, cut_gap h0.1]
  show (likeB [.word [103, 97, 112], .num] _).map _ = _
  simp only [likeB, tokOk_self, tokOk_itoa h0.1 h0.2, Option.bind_some, Option.map_some, List.nil_append, List.append_nil]
  rfl
theorem cutB_ne (a : Bs) : cutB a ≠ [] := by
  cases a with
  | nil => simp [cutB]
  | cons b t =>
    rw [cutB]
    split
    · simp
    · split <;> simp
theorem cutB_app (a x : Bs) : cutB (a ++ 32 :: x) = cutB a ++ cutB x := by
  induction a with
  | nil =>
    show cutB (32 :: x) = [] :: cutB x
    rw [cutB, if_pos rfl]
  | cons b t ih =>
    rw [List.cons_append, cutB, cutB]
    by_cases e : b = 32
    · rw [if_pos e, if_pos e, ih]; rfl
    · rw [if_neg e, if_neg e, ih]
      cases h : cutB t with
      | nil => exact absurd h (cutB_ne t)
      | cons y ys => rfl
theorem cut_tracks {g : Nat → Int} : ∀ {k : Nat}, (∀ i, i < k → 0 ≤ g i) → cutB (tracksT g k) = [116, 114, 97, 99, 107, 115] :: (List.range k).map fun i => Lib.itoa (g i)
  | 0, _ => by rw [tracksT, cutB_one (free_lit (by decide))]; rfl
  | k + 1, h => by rw [tracksT, cutB_app, cut_tracks (fun i hi => h i (by omega)), cutB_one (itoa_free (h k (by omega))), List.range_succ, List.map_append]; rfl
theorem like_nums {g : Nat → Int} : ∀ (L : List Nat), (∀ i ∈ L, 0 ≤ g i ∧ g i ≤ 9999999) → likeB (List.replicate L.length .num) (L.map fun i => Lib.itoa (g i)) = some (L.map g)
  | [], _ => rfl
  | i :: L, h => by
    have h1 := h i (by simp)
    rw [List.length_cons, List.replicate_succ, List.map_cons, likeB, tokOk_itoa h1.1 h1.2, like_nums L (fun j hj => h j (by simp [hj]))]
    rfl
theorem take_tracks {g : Nat → Int} {len : Nat} (h1 : 1 ≤ len) (h39 : len ≤ 39) (h : ∀ i, i < len → 0 ≤ g i ∧ g i ≤ 9999999) : takeM nilL (tracksT g len) 0 = some ⟨(List.range len).map g, 0, []⟩ := by
  have hc := cut_tracks (g := g) (k := len) (fun i hi => (h i hi).1)
  have hl := like_nums (g := g) (List.range len) (fun i hi => h i (List.mem_range.1 hi))
  rw [List.length_range] at hl
  unfold takeM tracksM
  rw [if_pos rfl, hc]
  have ht : trackToks ([116, 114, 97, 99, 107, 115] :: (List.range len).map fun i => Lib.itoa (g i)).length = .word [116, 114, 97, 99, 107, 115] :: List.replicate len .num := by
    unfold trackToks
    rw [List.length_cons, List.length_map, List.length_range, show max 1 (min (len + 1) 40 - 1) = len by omega]
    rfl
  rw [ht, likeB, tokOk_self, hl]
  rfl
theorem steps_legs {tr : List Int} {gap : Int} {ts : List TrL} {t : TrL} (hb : ∀ x ∈ t.legs, (0 ≤ x.to ∧ x.to ≤ 9999999) ∧ (0 ≤ x.run ∧ x.run ≤ 9999999) ∧ (0 ≤ x.stay ∧ x.stay ≤ 9999999)) {n : Nat} (hn : 2 ≤ n) : ∀ m, m ≤ t.legs.length → Steps ⟨tr, gap, ts ++ [{ t with legs := [] }]⟩ n (legsR (trD t) m) ⟨tr, gap, ts ++ [{ t with legs := t.legs.take m }]⟩
  | 0, _ => by rw [legsR, List.take_zero]; exact Steps.nil _ _
  | m + 1, hm => by
    have ih := steps_legs (tr := tr) (gap := gap) (ts := ts) hb hn m (by omega)
    have hx := hb t.legs[m] (List.getElem_mem (by omega))
    have e : (trD t).leg m = t.legs[m] := by show t.legs.getD m _ = _; rw [List.getD_eq_getElem?_getD, List.getElem?_eq_getElem (by omega)]; rfl
    rw [legsR, e]
    refine ih.app (Steps.one ?_)
    rw [take_leg (l := ⟨tr, gap, ts ++ [{ t with legs := t.legs.take m }]⟩) (by omega) rfl hx.1 hx.2.1 hx.2.2, List.take_succ_eq_append_getElem (by omega)]
    rfl
/-- the numbers of a train, as they bound a text -/
structure BackT (t : TrL) : Prop where
  frm : 0 ≤ t.frm ∧ t.frm ≤ 9999999
  ready : 0 ≤ t.ready ∧ t.ready ≤ 9999999
  due : 0 ≤ t.due ∧ t.due ≤ 9999999
  weight : 0 ≤ t.weight ∧ t.weight ≤ 9999999
  legs : ∀ x ∈ t.legs, (0 ≤ x.to ∧ x.to ≤ 9999999) ∧ (0 ≤ x.run ∧ x.run ≤ 9999999) ∧ (0 ≤ x.stay ∧ x.stay ≤ 9999999)
theorem steps_trains {tr : List Int} {gap : Int} {ts : List TrL} (hb : ∀ t ∈ ts, BackT t) : ∀ m, m ≤ ts.length → Steps ⟨tr, gap, []⟩ 2 (trainsR (fT ts) m) ⟨tr, gap, ts.take m⟩
  | 0, _ => Steps.nil _ _
  | m + 1, hm => by
    have ih := steps_trains (tr := tr) (gap := gap) hb m (by omega)
    have hx := hb ts[m] (List.getElem_mem (by omega))
    have e : fT ts m = trD ts[m] := by unfold fT; rw [List.getD_eq_getElem?_getD, List.getElem?_eq_getElem (by omega)]; rfl
    rw [trainsR, e]
    refine ih.app ?_
    have h1 : takeM ⟨tr, gap, ts.take m⟩ (trainR (trD ts[m])) (2 + (trainsR (fT ts) m).length) = some ⟨tr, gap, ts.take m ++ [{ ts[m] with legs := [] }]⟩ := take_train (t := trD ts[m]) (by omega) hx.frm hx.ready hx.due hx.weight
    have h2 := steps_legs (tr := tr) (gap := gap) (ts := ts.take m) hx.legs (n := 2 + (trainsR (fT ts) m).length + 1) (by omega) ts[m].legs.length (Nat.le_refl _)
    rw [List.take_length] at h2
    rw [List.take_succ_eq_append_getElem (by omega)]
    exact (Steps.one h1).app h2
theorem free_no {x : Bs} (h : Free x) : ∀ b ∈ x, b ≠ 10 := fun b hb => (h b hb).2
theorem legR_no {x : LegD} (h0 : 0 ≤ x.to) (h1 : 0 ≤ x.run) (h2 : 0 ≤ x.stay) : ∀ b ∈ legR x, b ≠ 10 := by
  have a := free_no (itoa_free h0)
  have b := free_no (itoa_free h1)
  have c := free_no (itoa_free h2)
  intro d hd
  simp only [legR, List.mem_append, List.mem_cons, List.not_mem_nil, or_false] at hd
  rcases hd with (rfl | rfl | rfl) | rfl | hd | rfl | (rfl | rfl | rfl) | rfl | hd | rfl | (rfl | rfl | rfl | rfl) | rfl | hd
  all_goals first | decide | exact a d hd | exact b d hd | exact c d hd
theorem trainR_no {t : TrainD} (h0 : 0 ≤ t.frm) (h1 : 0 ≤ t.ready) (h2 : 0 ≤ t.due) (h3 : 0 ≤ t.weight) : ∀ b ∈ trainR t, b ≠ 10 := by
  have a := free_no (itoa_free h0)
  have b := free_no (itoa_free h1)
  have c := free_no (itoa_free h2)
  have e := free_no (itoa_free h3)
  intro d hd
  simp only [trainR, List.mem_append, List.mem_cons, List.not_mem_nil, or_false] at hd
  rcases hd with (rfl | rfl | rfl | rfl | rfl) | rfl | hd | rfl | (rfl | rfl | rfl | rfl | rfl) | rfl | hd | rfl | (rfl | rfl | rfl) | rfl | hd | rfl | (rfl | rfl | rfl | rfl | rfl | rfl) | rfl | hd
  all_goals first | decide | exact a d hd | exact b d hd | exact c d hd | exact e d hd
theorem tracksT_no {g : Nat → Int} : ∀ {k : Nat}, (∀ i, i < k → 0 ≤ g i) → ∀ b ∈ tracksT g k, b ≠ 10
  | 0, _ => fun b hb => (free_lit (x := [116, 114, 97, 99, 107, 115]) (by decide) b hb).2
  | k + 1, h => fun b hb => by
    rw [tracksT, List.mem_append, List.mem_cons] at hb
    rcases hb with hb | rfl | hb
    · exact tracksT_no (fun i hi => h i (by omega)) b hb
    · decide
    · exact free_no (itoa_free (h k (by omega))) b hb
theorem legsR_no {t : TrL} (hb : BackT t) : ∀ m, m ≤ t.legs.length → ∀ x ∈ legsR (trD t) m, ∀ b ∈ x, b ≠ 10
  | 0, _ => fun x hx => absurd hx List.not_mem_nil
  | m + 1, hm => fun x hx => by
    rw [legsR, List.mem_append, List.mem_singleton] at hx
    rcases hx with hx | rfl
    · exact legsR_no hb m (by omega) x hx
    · have e : (trD t).leg m = t.legs[m] := by show t.legs.getD m _ = _; rw [List.getD_eq_getElem?_getD, List.getElem?_eq_getElem (by omega)]; rfl
      rw [e]
      have h := hb.legs t.legs[m] (List.getElem_mem (by omega))
      exact legR_no h.1.1 h.2.1.1 h.2.2.1
theorem trainsR_no {ts : List TrL} (hb : ∀ t ∈ ts, BackT t) : ∀ m, m ≤ ts.length → ∀ x ∈ trainsR (fT ts) m, ∀ b ∈ x, b ≠ 10
  | 0, _ => fun x hx => absurd hx List.not_mem_nil
  | m + 1, hm => fun x hx => by
    have e : fT ts m = trD ts[m] := by unfold fT; rw [List.getD_eq_getElem?_getD, List.getElem?_eq_getElem (by omega)]; rfl
    have h := hb ts[m] (List.getElem_mem (by omega))
    rw [trainsR, e, List.mem_append, List.mem_cons] at hx
    rcases hx with hx | rfl | hx
    · exact trainsR_no hb m (by omega) x hx
    · exact trainR_no h.frm.1 h.ready.1 h.due.1 h.weight.1
    · exact legsR_no h _ (Nat.le_refl _) x hx
theorem range_gI (tr : List Int) : (List.range tr.length).map (gI tr) = tr := by
  apply List.ext_getElem
  · simp
  · intro i h1 h2
    simp only [List.getElem_map, List.getElem_range]
    unfold gI
    rw [List.getD_eq_getElem?_getD, List.getElem?_eq_getElem h2]
    rfl
/-- what is written of a line is read as that line -/
theorem read_back {l : LnL} (h1 : 1 ≤ l.tracks.length) (h39 : l.tracks.length ≤ 39) (ht : ∀ z ∈ l.tracks, 0 ≤ z ∧ z ≤ 9999999) (hg : 0 ≤ l.gap ∧ l.gap ≤ 9999999) (hb : ∀ t ∈ l.trains, BackT t) :
    goM nilL 0 (cutN (lineT l.tracks.length (gI l.tracks) l.gap l.trains.length (fT l.trains))).1 (cutN (lineT l.tracks.length (gI l.tracks) l.gap l.trains.length (fT l.trains))).2 = .inl l := by
  have hgI : ∀ i, i < l.tracks.length → 0 ≤ gI l.tracks i ∧ gI l.tracks i ≤ 9999999 := fun i hi => by
    have e : gI l.tracks i = l.tracks[i] := by unfold gI; rw [List.getD_eq_getElem?_getD, List.getElem?_eq_getElem hi]; rfl
    rw [e]; exact ht _ (List.getElem_mem hi)
  rw [lineT_R, cutN_unl]
  · have s0 : Steps nilL 0 [tracksT (gI l.tracks) l.tracks.length] ⟨l.tracks, 0, []⟩ := Steps.one (by rw [take_tracks h1 h39 hgI, range_gI])
    have s1 : Steps ⟨l.tracks, 0, []⟩ 1 [gapR l.gap] ⟨l.tracks, l.gap, []⟩ := Steps.one (take_gap hg)
    have s2 := steps_trains (tr := l.tracks) (gap := l.gap) hb l.trains.length (Nat.le_refl _)
    rw [List.take_length] at s2
    have s := ((s0.app s1).app s2) [] []
    rw [List.append_nil] at s
    refine s.trans ?_
    rw [goM, if_neg (by simp)]
  · intro x hx
    rcases List.mem_cons.1 hx with rfl | hx
    · exact tracksT_no (fun i hi => (hgI i hi).1)
    · rcases List.mem_cons.1 hx with rfl | hx
      · intro b hb2
        rcases List.mem_append.1 (show b ∈ [103, 97, 112] ++ 32 :: Lib.itoa l.gap from hb2) with hb2 | hb2
        · exact (free_lit (x := [103, 97, 112]) (by decide) b hb2).2
        · rcases List.mem_cons.1 hb2 with rfl | hb2
          · decide
          · exact free_no (itoa_free hg.1) b hb2
      · exact trainsR_no hb _ (Nat.le_refl _) x hx
end Go.Proofs.YtnjaegeapcijpaaGreatDoor

namespace Go.Proofs.YtnjaegeapcijpaaGreatDoor
open Go.RowKit

/-- the reader leaves at this row -/
def Quit (b : Nat) (row : Int) (w : World) (e : Ending) (w' : World) : Prop := e = .panicked [{ v := .iface 125 (.agg #[.int .i64 row]), recovered := false }] ∧ Mid b (b + 1) w w'
section
variable {w0 w : World} {b : Nat} {s : Bs} {row : Int}
theorem takeR_no (hR : Rd w0 b s row w) {p : Bs} (h : takeB p s = none) : Calls Tryz.prog 128 #[.pointer (some ⟨b, 0, none⟩), .string (ba p)] w fun e w' => Quit b row w e w' := by
  have hp : p.isPrefixOf s = false := by
    unfold takeB at h
    split at h
    · cases h
    · rename_i h2; exact Bool.eq_false_iff.2 h2
  refine (take_no b s p row w hR.c0 hR.c1 hp).mono ?_
  rintro _ _ ⟨rfl, rfl⟩
  exact ⟨rfl, Mid.refl _ _ _⟩
theorem takeR_yes (hR : Rd w0 b s row w) {p r : Bs} (h : takeB p s = some r) : Calls Tryz.prog 128 #[.pointer (some ⟨b, 0, none⟩), .string (ba p)] w fun e w' => e = .returned (.tuple #[]) ∧ Rd w0 b r row w' ∧ Mid b (b + 1) w w' := by
  have hp : p.isPrefixOf s = true ∧ s.drop p.length = r := by
    unfold takeB at h
    split at h
    · rename_i h2; exact ⟨h2, Option.some.inj h⟩
    · cases h
  refine (take_yes b s p w hR.c0 hR.z0 hp.1).mono ?_
  rintro _ _ ⟨rfl, rfl⟩
  rw [hp.2]
  exact ⟨rfl, hR.take r, way_take hR _ 0⟩
end

theorem slice_dig (s : Bs) (W : World) : (Instr.slice 9 (.string (ba s)) none (some (.int .i64 ((s.takeWhile dig).length : Int))) none).run Tryz.prog W = .ok (.string (ba (s.takeWhile dig))) W := by
  have hl := trim_len s
  rw [run_slice_string_h W 9 (ba s) Tryz.underlying9 .i64 _ (by omega) (by rw [ba_size]; omega), Int.toNat_natCast, ba_take, take_len]
theorem size_dig (s : Bs) : ((ba s).size : Int) - ((ba (s.dropWhile dig)).size : Int) = ((s.takeWhile dig).length : Int) := by
  have hl := trim_len s
  rw [ba_size, ba_size]; omega

theorem ba_toList (l : Bs) : (ba l).toList = l := ByteArray.toList_mk l
set_option maxRecDepth 20000 in
set_option maxHeartbeats 2000000 in
theorem number_err (w0 : World) (b : Nat) (s : Bs) (row : Int) (w : World) (hR : Rd w0 b s row w) (hL : LaidR w0) (hs : s.length ≤ 4000) (hn : Lib.atoiAll (s.takeWhile dig) = .«syntax» ∨ Lib.atoiAll (s.takeWhile dig) = .range) :
    Calls Tryz.prog 129 #[.pointer (some ⟨b, 0, none⟩)] w fun e w' => Quit b row w e w' := by
  have hT := fun W => trim_any s W
  have hl := trim_len s
  have hlen : (s.takeWhile dig).length ≤ 4000 := by omega
  have hA := fun W hE => atoi_err (s.takeWhile dig) (by omega) hn W hE
  have hsl := slice_dig s
  have hsz := size_dig s
  have hc0 := hR.c0
  generalize (s.takeWhile dig).length = K at hsl hsz hlen
  generalize ba (s.takeWhile dig) = D at hsl hA
  generalize ba (s.dropWhile dig) = T at hT hsz
  generalize ba s = S at hc0 hT hsz hsl
  have hw : IntKind.i64.wrap ((S.size : Int) - (T.size : Int)) = (K : Int) := by rw [hsz, IntKind.wrap_i64]; omega
  have hw' : wrap64 ((S.size : Int) - (T.size : Int)) = (K : Int) := by unfold wrap64; omega
  clear hl hsz hn
  go_enter Tryz.func129, Tryz.ntmps129
  go_wp2
  go_region_held3 (fun w' => w'.cell? ⟨b, 0, none⟩ = some (.string S)) (first | (go_split_ands; exact cellLater hB2 (by assumption)) | go_keep) ((first | (go_at_call 147; refine (hT _).mono ?_; rintro e w2 ⟨rfl, hB2⟩)))
  have hBd : Below w.heap.size w w2 := Below.join ((Below.refl _ w).drew) (Nat.le_refl _) hB2
  have hR2 := hR.later hBd
  go_wp2_with (first | (go_at_call 148; refine (hA _ (hL.err.later hR2.base)).mono ?_; rintro _ w3 ⟨⟨nn, tt, pp, rfl⟩, hB3⟩; have hR3 := hR2.later hB3) | (go_at_call 146; refine (leave_any b row _ hR3.c1).mono ?_; rintro _ _ ⟨rfl, rfl⟩))
  exact ⟨rfl, rfl, hR.ofBelow (Below.join hBd (Nat.le_refl _) hB3)⟩

set_option maxRecDepth 20000 in
set_option maxHeartbeats 2000000 in
theorem number_big (w0 : World) (b : Nat) (s : Bs) (row : Int) (w : World) (hR : Rd w0 b s row w) (hs : s.length ≤ 4000) {v : Int} (hn : Lib.atoiAll (s.takeWhile dig) = .ok v) (hv : 9999999 < v) :
    Calls Tryz.prog 129 #[.pointer (some ⟨b, 0, none⟩)] w fun e w' => Quit b row w e w' := by
  have hT := fun W => trim_any s W
  have hl := trim_len s
  have hlen : (s.takeWhile dig).length ≤ 4000 := by omega
  have hA := fun W => atoi_ok (s.takeWhile dig) (by omega) hn W
  have hsl := slice_dig s
  have hsz := size_dig s
  have hc0 := hR.c0
  generalize (s.takeWhile dig).length = K at hsl hsz hlen
  generalize ba (s.takeWhile dig) = D at hsl hA
  generalize ba (s.dropWhile dig) = T at hT hsz
  generalize ba s = S at hc0 hT hsz hsl
  have hw : IntKind.i64.wrap ((S.size : Int) - (T.size : Int)) = (K : Int) := by rw [hsz, IntKind.wrap_i64]; omega
  have hw' : wrap64 ((S.size : Int) - (T.size : Int)) = (K : Int) := by unfold wrap64; omega
  clear hl hsz hn
  go_enter Tryz.func129, Tryz.ntmps129
  go_wp2
  go_region_held3 (fun w' => w'.cell? ⟨b, 0, none⟩ = some (.string S)) (first | (go_split_ands; exact cellLater hB2 (by assumption)) | go_keep) ((first | (go_at_call 147; refine (hT _).mono ?_; rintro e w2 ⟨rfl, hB2⟩)))
  have hBd : Below w.heap.size w w2 := Below.join ((Below.refl _ w).drew) (Nat.le_refl _) hB2
  have hR2 := hR.later hBd
  go_wp2_with (first | (go_at_call 148; refine (hA _).mono ?_; rintro _ w3 ⟨rfl, hB3⟩; have hR3 := hR2.later hB3) | (go_at_call 146; refine (leave_any b row _ hR3.c1).mono ?_; rintro _ _ ⟨rfl, rfl⟩))
  exact ⟨rfl, rfl, hR.ofBelow (Below.join hBd (Nat.le_refl _) hB3)⟩

set_option maxRecDepth 20000 in
set_option maxHeartbeats 2000000 in
theorem number_other (w0 : World) (b : Nat) (s : Bs) (row : Int) (w : World) (hR : Rd w0 b s row w) (hL : LaidR w0) (hs : s.length ≤ 4000) {v : Int} (hn : Lib.atoiAll (s.takeWhile dig) = .ok v) (h0 : 0 ≤ v) (hv : v ≤ 9999999) (hne : Lib.itoa v ≠ s.takeWhile dig) :
    Calls Tryz.prog 129 #[.pointer (some ⟨b, 0, none⟩)] w fun e w' => Quit b row w e w' := by
  have hT := fun W => trim_any s W
  have hl := trim_len s
  have hlen : (s.takeWhile dig).length ≤ 4000 := by omega
  have hA := fun W => atoi_ok (s.takeWhile dig) (by omega) hn W
  have hv' : ¬ (9999999 < v) := by omega
  have hI := fun W hT => itoaI_any v W h0 (by omega) hT
  have hcmp : ((ba (Lib.itoa v)).toList == (ba (s.takeWhile dig)).toList) = false := by rw [ba_toList, ba_toList]; simpa using hne
  have hsl := slice_dig s
  have hsz := size_dig s
  have hc0 := hR.c0
  generalize (s.takeWhile dig).length = K at hsl hsz hlen
  generalize ba (s.takeWhile dig) = D at hsl hA hcmp
  generalize ba (s.dropWhile dig) = T at hT hsz
  generalize ba s = S at hc0 hT hsz hsl
  have hw : IntKind.i64.wrap ((S.size : Int) - (T.size : Int)) = (K : Int) := by rw [hsz, IntKind.wrap_i64]; omega
  have hw' : wrap64 ((S.size : Int) - (T.size : Int)) = (K : Int) := by unfold wrap64; omega
  clear hl hsz hn hne
  go_enter Tryz.func129, Tryz.ntmps129
  go_wp2
  go_region_held3 (fun w' => w'.cell? ⟨b, 0, none⟩ = some (.string S)) (first | (go_split_ands; exact cellLater hB2 (by assumption)) | go_keep) ((first | (go_at_call 147; refine (hT _).mono ?_; rintro e w2 ⟨rfl, hB2⟩)))
  have hBd : Below w.heap.size w w2 := Below.join ((Below.refl _ w).drew) (Nat.le_refl _) hB2
  have hR2 := hR.later hBd
  go_wp2_with (first | (go_at_call 148; refine (hA _).mono ?_; rintro _ w3 ⟨rfl, hB3⟩; have hR3 := hR2.later hB3) | (go_at_call 72; refine (hI _ (hL.ten.later hR3.base)).mono ?_; rintro _ w4 ⟨rfl, hB4⟩; have hR4 := hR3.later hB4) | (go_at_call 146; refine (leave_any b row _ hR4.c1).mono ?_; rintro _ _ ⟨rfl, rfl⟩))
  exact ⟨rfl, rfl, hR.ofBelow (Below.join (Below.join hBd (Nat.le_refl _) hB3) (Nat.le_refl _) hB4)⟩

set_option maxRecDepth 20000 in
set_option maxHeartbeats 2000000 in
theorem number_yes (w0 : World) (b : Nat) (s : Bs) (row : Int) (w : World) (hR : Rd w0 b s row w) (hL : LaidR w0) (hs : s.length ≤ 4000) (hn : numOk (s.takeWhile dig) = true) :
    Calls Tryz.prog 129 #[.pointer (some ⟨b, 0, none⟩)] w fun e w' => e = .returned (.int .i64 (numVal (s.takeWhile dig))) ∧ Rd w0 b (s.drop (s.takeWhile dig).length) row w' ∧ Mid b (b + 1) w w' := by
  have hT := fun W => trim_any s W
  have hl := trim_len s
  have hlen : (s.takeWhile dig).length ≤ 4000 := by omega
  obtain ⟨hn1, h0, hv, hit⟩ := num_ok hn
  have hA := fun W => atoi_ok (s.takeWhile dig) (by omega) hn1 W
  have hv' : ¬ (9999999 < numVal (s.takeWhile dig)) := by omega
  have hI := fun W hT => itoaI_any (numVal (s.takeWhile dig)) W h0 (by omega) hT
  rw [hit] at hI
  have hcmp : ((ba (s.takeWhile dig)).toList == (ba (s.takeWhile dig)).toList) = true := by simp
  have htk : takeB (s.takeWhile dig) s = some (s.drop (s.takeWhile dig).length) := by
    unfold takeB; rw [if_pos]; rw [List.isPrefixOf_iff_prefix]; exact List.takeWhile_prefix _
  have hTk := fun W (h : Rd w0 b s row W) => takeR_yes h htk
  clear htk hn hn1 hit
  generalize hrr : s.drop (s.takeWhile dig).length = rr at hTk
  generalize numVal (s.takeWhile dig) = v at *
  have hsl := slice_dig s
  have hsz := size_dig s
  have hc0 := hR.c0
  generalize (s.takeWhile dig).length = K at hsl hsz hlen
  generalize ba (s.takeWhile dig) = D at hsl hA hI hcmp hTk
  generalize ba (s.dropWhile dig) = T at hT hsz
  generalize ba s = S at hc0 hT hsz hsl
  have hw : IntKind.i64.wrap ((S.size : Int) - (T.size : Int)) = (K : Int) := by rw [hsz, IntKind.wrap_i64]; omega
  have hw' : wrap64 ((S.size : Int) - (T.size : Int)) = (K : Int) := by unfold wrap64; omega
  clear hl hsz
  go_enter Tryz.func129, Tryz.ntmps129
  go_wp2
  go_region_held3 (fun w' => w'.cell? ⟨b, 0, none⟩ = some (.string S)) (first | (go_split_ands; exact cellLater hB2 (by assumption)) | go_keep) ((first | (go_at_call 147; refine (hT _).mono ?_; rintro e w2 ⟨rfl, hB2⟩)))
  have hBd : Below w.heap.size w w2 := Below.join ((Below.refl _ w).drew) (Nat.le_refl _) hB2
  have hR2 := hR.later hBd
  go_wp2_with (first | (go_at_call 148; refine (hA _).mono ?_; rintro _ w3 ⟨rfl, hB3⟩; have hR3 := hR2.later hB3) | (go_at_call 72; refine (hI _ (hL.ten.later hR3.base)).mono ?_; rintro _ w4 ⟨rfl, hB4⟩; have hR4 := hR3.later hB4) | (go_at_call 128; refine (hTk _ hR4).mono ?_; rintro _ w5 ⟨rfl, hR5, hM5⟩))
  go_ret
  exact ⟨rfl, hR5, (hR.ofBelow (Below.join (Below.join hBd (Nat.le_refl _) hB3) (Nat.le_refl _) hB4)).trans hM5⟩

theorem number_no (w0 : World) (b : Nat) (s : Bs) (row : Int) (w : World) (hR : Rd w0 b s row w) (hL : LaidR w0) (hs : s.length ≤ 4000) (hn : numB s = none) :
    Calls Tryz.prog 129 #[.pointer (some ⟨b, 0, none⟩)] w fun e w' => Quit b row w e w' := by
  have hk : numOk (s.takeWhile dig) = false := by
    unfold numB at hn
    split at hn
    · cases hn
    · rename_i h2; exact Bool.eq_false_iff.2 h2
  rcases num_no (takeWhile_dig s) hk with h | h | ⟨v, h, hv⟩
  · exact number_err w0 b s row w hR hL hs (Or.inl h)
  · exact number_err w0 b s row w hR hL hs (Or.inr h)
  · have h0 := atoi_nonneg (takeWhile_dig s) h
    by_cases h1 : 9999999 < v
    · exact number_big w0 b s row w hR hs h h1
    · exact number_other w0 b s row w hR hL hs h h0 (by omega) (hv.resolve_left h1)
theorem numB_parts {s r : Bs} {a : List Int} (h : numB s = some (a, r)) : numOk (s.takeWhile dig) = true ∧ a = [numVal (s.takeWhile dig)] ∧ r = s.drop (s.takeWhile dig).length := by
  unfold numB at h
  split at h
  · rename_i h2
    simp only [Option.some.injEq, Prod.mk.injEq] at h
    exact ⟨h2, h.1.symm, h.2.symm⟩
  · cases h
end Go.Proofs.YtnjaegeapcijpaaGreatDoor

namespace Go.Proofs.YtnjaegeapcijpaaGreatDoor
open Go.RowKit

theorem Mid.grown {lo hi : Nat} {w W W' : World} {row : Option Nat} (h : Mid lo hi w W) (hg : W.grownBy W' row) (hr : ∀ k, row = some k → w.heap.size ≤ k) (hlo : lo ≤ w.heap.size) : Mid lo hi w W' := by
  have hs := h.below.size
  have hk : ∀ k, k < w.heap.size → W'.heap[k]? = W.heap[k]? := fun k hk => hg.block k (by omega) (fun e => by have := hr k e.symm; omega)
  refine ⟨below_grown h.below hg (by omega) (fun k e => by have := hr k e; omega), fun x h0 h1 => (hk x h1).trans (h.above x h0 h1), fun b o v hc hf => ?_⟩
  obtain ⟨v', h1, h2⟩ := h.keeps b o v hc hf
  have hb : W'.heap[b]? = W.heap[b]? := hk b (ltCell hc)
  exact ⟨v', (World.cell?_of_block (w := W) (w' := W') (a := ⟨b, o, none⟩) hb).trans h1, (World.frozen?_of_block (w := W) (w' := W') (a := ⟨b, o, none⟩) hb).trans h2⟩
theorem rowMid {W W' : World} {b B0 : Nat} {e : TypeId} {size : Nat} {v : Value} {n : Nat} {xs : List Value} (h : W.ownsRow B0 e size v n xs) (hM : Mid b (b + 1) W W') (hb : b < B0) : W'.ownsRow B0 e size v n xs :=
  ownsRow_same h (fun k hk => hM.above k (by have := (h.lt k hk).1; omega) (h.lt k hk).2)
theorem info3 {P : Program} {t : TypeId} {z : Value} {s b : Nat} (h : (P.info? t).map (fun i => (i.zero, i.size, i.bytes)) = some (some z, s, b)) : ∃ i, P.info? t = some i ∧ i.zero = some z ∧ i.size = s ∧ i.bytes = b := by
  cases hi : P.info? t with
  | none => rw [hi] at h; simp at h
  | some i => rw [hi] at h; simp at h; exact ⟨i, rfl, h.1, h.2.1, h.2.2⟩
theorem ints_at {W : World} {B0 g cap : Nat} {a : List Int} (h : W.ownsRow B0 3 1 (.slice (some ⟨g, 0, none⟩) a.length cap) a.length (intCells a)) {j : Nat} (hj : j < a.length) : W.cell? ⟨g, j, none⟩ = some (.int .i64 (a.getD j 0)) := by
  rw [World.ownsRow.cellAt h j (by omega)]
  unfold intCells
  rw [List.getElem?_map, List.getD_eq_getElem?_getD, List.getElem?_eq_getElem hj]
  rfl
theorem Mid.setNew {lo hi : Nat} {w W : World} (h : Mid lo hi w W) (p : Addr) (hp : w.heap.size ≤ p.block) (hlo : lo ≤ w.heap.size) (x : Value) : Mid lo hi w (W.setCell p x) :=
  ⟨h.below.setCell (by omega) x, fun y hy hy2 => (Below.heap_setCell W p x y (by omega)).trans (h.above y hy hy2), fun b o v hc hf => by
    obtain ⟨v', h1, h2⟩ := h.keeps b o v hc hf
    obtain ⟨v2, hv2⟩ := cell?_setCell_some (w := W) (p := p) (x := x) h1
    exact ⟨v2, hv2, by rw [World.frozen?_setCell]; exact h2⟩⟩
theorem Room.keep {B m lo hi : Nat} {W W' : World} (h : Room B m W) (hM : Mid lo hi W W') : Room B m W' := fun i hi => by
  obtain ⟨v, hv, hz⟩ := h i hi
  exact hM.keeps _ _ v hv hz
theorem Room.grown {B m : Nat} {W W' : World} {row : Option Nat} (h : Room B m W) (hg : W.grownBy W' row) (hr : ∀ k, row = some k → k ≠ B) : Room B m W' := fun i hi => by
  obtain ⟨v, hv, hz⟩ := h i hi
  have hb : W'.heap[B]? = W.heap[B]? := hg.block B (ltCell hv) (fun e => hr B e.symm rfl)
  exact ⟨v, (World.cell?_of_block (w := W) (w' := W') (a := ⟨B, i, none⟩) hb).trans hv, (World.frozen?_of_block (w := W) (w' := W') (a := ⟨B, i, none⟩) hb).trans hz⟩
/-- tracks and trains of the call's own, in blocks apart -/
structure LOwn (B0 : Nat) (W : World) (tr : List Int) (L : List TrV) (vt vT : Value) : Prop where
  ints : W.ownsRow B0 3 1 vt tr.length (intCells tr)
  trs : OwnT B0 W vT L
  off : Off vt vT
  offs : ∀ x ∈ L, Off vt x.2
section
variable {B0 : Nat} {W W' : World} {tr : List Int} {L : List TrV} {vt vT : Value}
theorem LOwn.same (h : LOwn B0 W tr L vt vT) (hs : ∀ k, B0 ≤ k → k < W.heap.size → W'.heap[k]? = W.heap[k]?) : LOwn B0 W' tr L vt vT :=
  ⟨ownsRow_same h.ints (fun k hk => hs k (h.ints.lt k hk).1 (h.ints.lt k hk).2), h.trs.same (fun k hk => hs k (h.trs.lt hk).1 (h.trs.lt hk).2), h.off, h.offs⟩
theorem LOwn.later (h : LOwn B0 W tr L vt vT) (hB : Below W.heap.size W W') : LOwn B0 W' tr L vt vT := h.same (fun k _ hk => hB.block k hk)
theorem LOwn.mid {b : Nat} (h : LOwn B0 W tr L vt vT) (hM : Mid b (b + 1) W W') (hb : b < B0) : LOwn B0 W' tr L vt vT := h.same (fun k h0 h1 => hM.above k (by omega) h1)
theorem LOwn.set (h : LOwn B0 W tr L vt vT) (p : Addr) (hp : p.block < B0) (x : Value) : LOwn B0 (W.setCell p x) tr L vt vT := h.same (fun k h0 _ => Below.heap_setCell W p x k (by omega))
theorem LOwn.low (h : LOwn B0 W tr L vt vT) {B1 : Nat} (hb : B1 ≤ B0) : LOwn B1 W tr L vt vT := ⟨Joins.ownsRow_le h.ints hb, h.trs.low hb, h.off, h.offs⟩
theorem LOwn.snoc {v' : Value} {t : TrL} {lv : Value} (h : LOwn B0 W tr L vt vT) (ho : W'.ownsRow B0 71 5 v' (L.length + 1) (trCells L ++ [.int .i64 t.frm, .int .i64 t.ready, .int .i64 t.due, .int .i64 t.weight, lv]))
    (hl : OwnLegs B0 W lv t.legs) (hn : ∀ k, lv.ownBlock = some k → vt.ownBlock ≠ some k ∧ vT.ownBlock ≠ some k ∧ ∀ x ∈ L, x.2.ownBlock ≠ some k) (hg : W.grownBy W' vT.ownBlock) (hloc : v'.ownBlock = vT.ownBlock ∨ v'.ownBlock = some W.heap.size) : LOwn B0 W' tr (L ++ [(t, lv)]) vt v' := by
  refine ⟨ownsRow_same h.ints (fun k hk => hg.block k (h.ints.lt k hk).2 (fun e => h.off k hk e.symm)), h.trs.snoc ho hl (fun x hx k hk e => (hn k e).2.2 x hx hk) (fun k hk => (hn k hk).2.1) hg hloc, h.off.loc (fun k hk => (h.ints.lt k hk).2) hloc, fun x hx => ?_⟩
  rcases List.mem_append.1 hx with hx | hx
  · exact h.offs x hx
  · rw [List.mem_singleton] at hx; subst hx; exact fun k hk e => (hn k e).1 hk
end
structure LBox (B0 bl : Nat) (W : World) (tr : List Int) (gap : Int) (L : List TrV) (vt vT : Value) : Prop where
  c0 : W.cell? ⟨bl, 0, none⟩ = some vt
  c1 : W.cell? ⟨bl, 1, none⟩ = some (.int .i64 gap)
  c2 : W.cell? ⟨bl, 2, none⟩ = some vT
  z0 : W.frozen? ⟨bl, 0, none⟩ = false
  z1 : W.frozen? ⟨bl, 1, none⟩ = false
  z2 : W.frozen? ⟨bl, 2, none⟩ = false
  lt : bl < B0
  own : LOwn B0 W tr L vt vT
section
variable {B0 bl : Nat} {W W' : World} {tr : List Int} {gap : Int} {L : List TrV} {vt vT : Value}
theorem LBox.same (h : LBox B0 bl W tr gap L vt vT) (hb : W'.heap[bl]? = W.heap[bl]?) (hs : ∀ k, B0 ≤ k → k < W.heap.size → W'.heap[k]? = W.heap[k]?) : LBox B0 bl W' tr gap L vt vT := by
  have cc : ∀ o u, W.cell? ⟨bl, o, none⟩ = some u → W'.cell? ⟨bl, o, none⟩ = some u := fun o u hu => (World.cell?_of_block (w := W) (w' := W') (a := ⟨bl, o, none⟩) hb).trans hu
  have zz : ∀ o, W.frozen? ⟨bl, o, none⟩ = false → W'.frozen? ⟨bl, o, none⟩ = false := fun o hu => (World.frozen?_of_block (w := W) (w' := W') (a := ⟨bl, o, none⟩) hb).trans hu
  exact ⟨cc 0 _ h.c0, cc 1 _ h.c1, cc 2 _ h.c2, zz 0 h.z0, zz 1 h.z1, zz 2 h.z2, h.lt, h.own.same hs⟩
theorem LBox.later (h : LBox B0 bl W tr gap L vt vT) (hB : Below W.heap.size W W') : LBox B0 bl W' tr gap L vt vT := h.same (hB.block _ (ltCell h.c0)) (fun k _ hk => hB.block k hk)
theorem LBox.mid {b : Nat} (h : LBox B0 bl W tr gap L vt vT) (hM : Mid b (b + 1) W W') (hb : b < bl) : LBox B0 bl W' tr gap L vt vT :=
  h.same (hM.above _ hb (ltCell h.c0)) (fun k h0 h1 => hM.above k (by have := h.lt; omega) h1)
/-- the tracks, laid into the box -/
theorem LBox.tracks {tr' : List Int} {vt' : Value} (h : LBox B0 bl W tr gap [] vt (.slice none 0 0)) (ho : W.ownsRow B0 3 1 vt' tr'.length (intCells tr')) : LBox B0 bl (W.setCell ⟨bl, 0, none⟩ vt') tr' gap [] vt' (.slice none 0 0) := by
  have hl := h.lt
  refine ⟨World.cell?_setCell_same _ _ _ h.c0, (cell_set_ne (by omega)).trans h.c1, (cell_set_ne (by omega)).trans h.c2, (World.frozen?_setCell ..).trans h.z0, (World.frozen?_setCell ..).trans h.z1, (World.frozen?_setCell ..).trans h.z2, hl, ⟨ownsRow_setCell_below ho hl _, OwnT.nil _ _, fun k _ e => by simp [Value.ownBlock] at e, fun x hx => absurd hx List.not_mem_nil⟩⟩
theorem LBox.gap_ (h : LBox B0 bl W tr gap L vt vT) (gap' : Int) : LBox B0 bl (W.setCell ⟨bl, 1, none⟩ (.int .i64 gap')) tr gap' L vt vT := by
  have hl := h.lt
  exact ⟨(cell_set_ne (by omega)).trans h.c0, World.cell?_setCell_same _ _ _ h.c1, (cell_set_ne (by omega)).trans h.c2, (World.frozen?_setCell ..).trans h.z0, (World.frozen?_setCell ..).trans h.z1, (World.frozen?_setCell ..).trans h.z2, hl, h.own.set _ hl _⟩
/-- one train more, laid into the box -/
theorem LBox.snoc {v' : Value} {t : TrL} {lv : Value} (h : LBox B0 bl W tr gap L vt vT) (ho : W'.ownsRow B0 71 5 v' (L.length + 1) (trCells L ++ [.int .i64 t.frm, .int .i64 t.ready, .int .i64 t.due, .int .i64 t.weight, lv]))
    (hl : OwnLegs B0 W lv t.legs) (hn : ∀ k, lv.ownBlock = some k → vt.ownBlock ≠ some k ∧ vT.ownBlock ≠ some k ∧ ∀ x ∈ L, x.2.ownBlock ≠ some k) (hg : W.grownBy W' vT.ownBlock) (hloc : v'.ownBlock = vT.ownBlock ∨ v'.ownBlock = some W.heap.size) : LBox B0 bl (W'.setCell ⟨bl, 2, none⟩ v') tr gap (L ++ [(t, lv)]) vt v' := by
  have hlt := h.lt
  have hlb := ltCell h.c0
  dsimp only at hlb
  have hb : W'.heap[bl]? = W.heap[bl]? := hg.block bl hlb (fun e => by have := (h.own.trs.lt (Or.inl e.symm)).1; omega)
  have cc : ∀ o u, W.cell? ⟨bl, o, none⟩ = some u → W'.cell? ⟨bl, o, none⟩ = some u := fun o u hu => (World.cell?_of_block (w := W) (w' := W') (a := ⟨bl, o, none⟩) hb).trans hu
  have zz : ∀ o, W.frozen? ⟨bl, o, none⟩ = false → W'.frozen? ⟨bl, o, none⟩ = false := fun o hu => (World.frozen?_of_block (w := W) (w' := W') (a := ⟨bl, o, none⟩) hb).trans hu
  exact ⟨(cell_set_ne (by omega)).trans (cc 0 _ h.c0), (cell_set_ne (by omega)).trans (cc 1 _ h.c1), World.cell?_setCell_same _ _ _ (cc 2 _ h.c2), (World.frozen?_setCell ..).trans (zz 0 h.z0), (World.frozen?_setCell ..).trans (zz 1 h.z1), (World.frozen?_setCell ..).trans (zz 2 h.z2), hlt, (h.own.snoc ho hl hn hg hloc).set _ hlt _⟩
end
theorem TrV_one {t : TrL} {la : Option Addr} {n c : Nat} : ∀ u ∈ [Value.int .i64 t.frm, .int .i64 t.ready, .int .i64 t.due, .int .i64 t.weight, .slice la n c], u.oneCell' = true := by
  intro u hu
  simp only [List.mem_cons, List.not_mem_nil, or_false] at hu
  rcases hu with rfl | rfl | rfl | rfl | rfl <;> rfl
/-- a train's box at block bt, its legs of the call's own -/
structure TBox (B0 bt : Nat) (W : World) (t : TrL) (lv : Value) : Prop where
  c0 : W.cell? ⟨bt, 0, none⟩ = some (.int .i64 t.frm)
  c1 : W.cell? ⟨bt, 1, none⟩ = some (.int .i64 t.ready)
  c2 : W.cell? ⟨bt, 2, none⟩ = some (.int .i64 t.due)
  c3 : W.cell? ⟨bt, 3, none⟩ = some (.int .i64 t.weight)
  c4 : W.cell? ⟨bt, 4, none⟩ = some lv
  z4 : W.frozen? ⟨bt, 4, none⟩ = false
  legs : OwnLegs B0 W lv t.legs
  off : lv.ownBlock ≠ some bt
section
variable {B0 bt : Nat} {W W' : World} {t : TrL} {lv : Value}
theorem TBox.same (h : TBox B0 bt W t lv) (hb : W'.heap[bt]? = W.heap[bt]?) (hl : ∀ k, lv.ownBlock = some k → W'.heap[k]? = W.heap[k]?) : TBox B0 bt W' t lv := by
  have cc : ∀ o u, W.cell? ⟨bt, o, none⟩ = some u → W'.cell? ⟨bt, o, none⟩ = some u := fun o u hu => (World.cell?_of_block (w := W) (w' := W') (a := ⟨bt, o, none⟩) hb).trans hu
  exact ⟨cc 0 _ h.c0, cc 1 _ h.c1, cc 2 _ h.c2, cc 3 _ h.c3, cc 4 _ h.c4, (World.frozen?_of_block (w := W) (w' := W') (a := ⟨bt, 4, none⟩) hb).trans h.z4, ownsRow_same h.legs hl, h.off⟩
theorem TBox.later (h : TBox B0 bt W t lv) (hB : Below W.heap.size W W') : TBox B0 bt W' t lv :=
  h.same (hB.block _ (ltCell h.c0)) (fun k hk => hB.block k (World.ownsRow.lt h.legs k hk).2)
theorem TBox.mid {b : Nat} (h : TBox B0 bt W t lv) (hM : Mid b (b + 1) W W') (h0 : b < B0) (h1 : b < bt) : TBox B0 bt W' t lv :=
  h.same (hM.above _ h1 (ltCell h.c0)) (fun k hk => hM.above k (by have := (World.ownsRow.lt h.legs k hk).1; omega) (World.ownsRow.lt h.legs k hk).2)
/-- one leg more -/
theorem TBox.add {g : LegD} {lv' : Value} (h : TBox B0 bt W t lv) (ho : W'.ownsRow B0 73 3 lv' (t.legs.length + 1) (legCells t.legs ++ [.int .i64 g.to, .int .i64 g.run, .int .i64 g.stay])) (hg : W.grownBy W' lv.ownBlock) (hloc : lv'.ownBlock = lv.ownBlock ∨ lv'.ownBlock = some W.heap.size) :
    TBox B0 bt (W'.setCell ⟨bt, 4, none⟩ lv') (t.add g) lv' := by
  have hlt := ltCell h.c0
  dsimp only at hlt
  have hb : W'.heap[bt]? = W.heap[bt]? := hg.block bt hlt (fun e => h.off e.symm)
  have cc : ∀ o u, W.cell? ⟨bt, o, none⟩ = some u → W'.cell? ⟨bt, o, none⟩ = some u := fun o u hu => (World.cell?_of_block (w := W) (w' := W') (a := ⟨bt, o, none⟩) hb).trans hu
  have hoff : lv'.ownBlock ≠ some bt := fun e => by
    rcases hloc with e2 | e2
    · exact h.off (e2.symm.trans e)
    · rw [e2] at e; cases e; omega
  refine ⟨(cell_set_ne (by omega)).trans (cc 0 _ h.c0), (cell_set_ne (by omega)).trans (cc 1 _ h.c1), (cell_set_ne (by omega)).trans (cc 2 _ h.c2), (cell_set_ne (by omega)).trans (cc 3 _ h.c3), World.cell?_setCell_same _ _ _ (cc 4 _ h.c4), ?_, ?_, hoff⟩
  · rw [World.frozen?_setCell]; exact (World.frozen?_of_block (w := W) (w' := W') (a := ⟨bt, 4, none⟩) hb).trans h.z4
  · unfold OwnLegs TrL.add
    dsimp only
    rw [legCells_snoc, List.length_append]
    exact ownsRow_same ho (fun k hk => Below.heap_setCell W' _ _ k (fun e => hoff (by rw [hk, e])))
end
end Go.Proofs.YtnjaegeapcijpaaGreatDoor

namespace Go.Proofs.YtnjaegeapcijpaaGreatDoor
open Go.RowKit

theorem Rd.grown {w0 W W' : World} {b : Nat} {s : Bs} {r : Int} {row : Option Nat} (h : Rd w0 b s r W) (hg : W.grownBy W' row) (hr : ∀ k, row = some k → b < k) : Rd w0 b s r W' := by
  have hlt := ltCell h.c0
  dsimp only at hlt
  have hlo := h.lo
  have hb : W'.heap[b]? = W.heap[b]? := hg.block b hlt (fun e => by have := hr b e.symm; omega)
  have cc : ∀ o u, W.cell? ⟨b, o, none⟩ = some u → W'.cell? ⟨b, o, none⟩ = some u := fun o u hu => (World.cell?_of_block (w := W) (w' := W') (a := ⟨b, o, none⟩) hb).trans hu
  have zz : ∀ o, W.frozen? ⟨b, o, none⟩ = false → W'.frozen? ⟨b, o, none⟩ = false := fun o hu => (World.frozen?_of_block (w := W) (w' := W') (a := ⟨b, o, none⟩) hb).trans hu
  exact ⟨below_grown h.base hg (by omega) (fun k e => by have := hr k e; omega), h.lo, cc 0 _ h.c0, cc 1 _ h.c1, zz 0 h.z0, zz 1 h.z1⟩

theorem words_at {kd : Nat} : (wordsOf kd).length ≤ 4 ∧ ∀ x ∈ wordsOf kd, x.length ≤ 8 := by
  match kd with
  | 0 => exact ⟨by decide, by decide⟩
  | 1 => exact ⟨by decide, by decide⟩
  | 2 => exact ⟨by decide, by decide⟩
  | _ + 3 => exact ⟨by simp [wordsOf], by simp [wordsOf]⟩
theorem prB_cons (f : Bool) (x : Bs) (xs : List Bs) (s : Bs) : prB f (x :: xs) s = (if f then some s else takeB [32] s).bind fun s1 => (takeB (x ++ [32]) s1).bind fun s2 => (numB s2).bind fun n => (prB false xs n.2).map fun y => (n.1 ++ y.1, y.2) := rfl
theorem takeB_len {p s r : Bs} (h : takeB p s = some r) : r.length ≤ s.length := by rw [takeB_sub h, List.length_append]; omega

set_option maxRecDepth 20000 in
set_option maxHeartbeats 8000000 in
theorem pairs_any (w0 : World) (b : Nat) (s : Bs) (row : Int) (kd : Nat) (w : World) (hkd : kd < 4) (hR : Rd w0 b s row w) (hL : LaidR w0) (hs : s.length ≤ 4000) :
    Calls Tryz.prog 126 #[.pointer (some ⟨b, 0, none⟩), .int .i64 kd] w fun e w' => (prB true (wordsOf kd) s = none ∧ Quit b row w e w') ∨ ∃ a r v, prB true (wordsOf kd) s = some (a, r) ∧ e = .returned v ∧ w'.ownsRow w.heap.size 3 1 v a.length (intCells a) ∧ Rd w0 b r row w' ∧ Mid b (b + 1) w w' := by
  obtain ⟨i0, hi, hz0, hz1, hz2⟩ := info3 Tryz.infoInt
  obtain ⟨bw, ow, cw, hw0, hwc⟩ := hL.words kd hkd
  obtain ⟨hwl, hwx⟩ := words_at (kd := kd)
  have hkd' : (kd : Int) < 4 := by omega
  have hkd0 : (0 : Int) ≤ (kd : Int) := by omega
  have hblt : b < w.heap.size := ltCell hR.c0
  have u0 := cellLater hR.base hw0
  generalize hT0 : prB true (wordsOf kd) s = T
  go_enter Tryz.func126, Tryz.ntmps126
  go_wp2
  go_loopw [5, 12] (fun oo ii wr => ∃ (i : Nat) (a : List Int) (si : Bs), i ≤ (wordsOf kd).length ∧ ii = .int .i64 i ∧ a.length = i ∧ si.length ≤ 4000 ∧ wr.ownsRow w.heap.size 3 1 oo a.length (intCells a) ∧ Rd w0 b si row wr ∧ Mid b (b + 1) w wr ∧ T = (prB (decide (i = 0)) ((wordsOf kd).drop i) si).map fun y => (a ++ y.1, y.2)) (fun _ ii _ => (wordsOf kd).length - (intOf ii).toNat)
  case atStart => exact ⟨0, [], s, Nat.zero_le _, rfl, rfl, hs, World.ownsRow_nil _ _ _ _, hR, Mid.refl _ _ _, by rw [← hT0]; show _ = (prB true (wordsOf kd) s).map _; cases prB true (wordsOf kd) s <;> rfl⟩
  case round =>
    obtain ⟨i, a, si, hile, rfl, hal, hsi, hown, hRd, hMd, hT⟩ := hrel
    by_cases hlt : i < (wordsOf kd).length
    · have hlt' : (i : Int) < ((wordsOf kd).length : Int) := by omega
      have hi0 : (0 : Int) ≤ (i : Int) := by omega
      obtain ⟨x, hx⟩ : ∃ x, (wordsOf kd)[i]? = some x := ⟨_, List.getElem?_eq_getElem hlt⟩
      have v1 := cellLater hRd.base (hwc i x hx)
      have hxl : x.length ≤ 8 := hwx x (List.mem_of_getElem? hx)
      have hadd : ∀ W, (Op.stringOp .add (ba x) ⟨#[32]⟩).run Tryz.prog W = .ok (.string (ba (x ++ [32]))) W := fun W => add_ba x [32] (by simp; omega) W
      have hdrop : (wordsOf kd).drop i = x :: (wordsOf kd).drop (i + 1) := by
        rw [List.drop_eq_getElem_cons hlt]
        rw [List.getElem?_eq_getElem hlt, Option.some.injEq] at hx
        rw [hx]
      rw [hdrop, prB_cons] at hT
      clear hdrop hx hT0
      by_cases h0 : i = 0
      · subst h0
        rw [Nat.add_zero] at v1
        have hT1 := hT
        rw [decide_eq_true rfl, if_pos rfl, Option.bind_some] at hT1
        obtain ⟨s1, hs1⟩ : ∃ s1, s1 = si := ⟨_, rfl⟩
        rw [← hs1] at hT1 hRd hsi
        have hRd1 := hRd
        have hMd1 := hMd
        have hown1 := hown
        clear hT hs1 hRd hMd hown
        cases ht : takeB (x ++ [32]) s1 with
        | none =>
          rw [ht] at hT1
          go_wp2_with (first  | (go_at_call 128; refine (takeR_no hRd1 ht).mono ?_; rintro _ wq ⟨rfl, hMq⟩))
          exact ⟨rfl, Or.inl ⟨hT1, rfl, hMd1.trans hMq⟩⟩
        | some s2 =>
          have hl2 := takeB_len ht
          cases hn : numB s2 with
          | none =>
            rw [ht, Option.bind_some, hn] at hT1
            go_wp2_with (first  | (go_at_call 128; refine (takeR_yes hRd1 ht).mono ?_; rintro _ w2 ⟨rfl, hRd2, hM2⟩) | (go_at_call 129; refine (number_no w0 b s2 row _ hRd2 hL (by omega) hn).mono ?_; rintro _ wq ⟨rfl, hMq⟩))
            exact ⟨rfl, Or.inl ⟨hT1, rfl, (hMd1.trans hM2).trans hMq⟩⟩
          | some nr =>
            obtain ⟨na, s3⟩ := nr
            obtain ⟨hk, rfl, rfl⟩ := numB_parts hn
            rw [ht, Option.bind_some, hn, Option.bind_some] at hT1
            have hN := fun W (h : Rd w0 b s2 row W) => number_yes w0 b s2 row W h hL (by omega) hk
            have hl3 : (s2.drop (s2.takeWhile dig).length).length ≤ s2.length := by rw [List.length_drop]; omega
            generalize s2.drop (s2.takeWhile dig).length = s3 at hT1 hN hl3
            generalize numVal (s2.takeWhile dig) = nv at hT1 hN
            have hT1' : Hid _ := hT1
            clear hT1 hn hk
            go_wp2_with (first  | (go_at_call 128; refine (takeR_yes hRd1 ht).mono ?_; rintro _ w2 ⟨rfl, hRd2, hM2⟩) | (go_at_call 129; refine (hN _ hRd2).mono ?_; rintro _ w3 ⟨rfl, hRd3, hM3⟩; have hown3 := rowMid (rowMid hown1 hM2 hblt) hM3 hblt; have hsz3 := ((hMd1.trans hM2).trans hM3).below.size) | (at_builtin; refine wpList_append_own _ rfl _ _ 23 rfl w.heap.size 3 i0 _ 1 8 Tryz.underlying23 hi hz0 hz1 hz2 rfl (by decide) _ _ _ rfl (hown3.alloc _) ⟨w3.heap.size, 0, none⟩ 1 1 [.int .i64 nv] rfl rfl cells1_lie one1 (by unfold maxLen; omega) (by omega) (by simp only [World.size_alloc]; omega) ?_))
            intro v' w6 hown' hgrow _
            have hlow : ∀ k, u5.ownBlock = some k → w.heap.size ≤ k := fun k hk => (hown3.lt k hk).1
            have hM6 : Mid b (b + 1) w w6 := (((hMd1.trans hM2).trans hM3).trans (hRd3.ofBelow (b1 w3 (.cells #[.int .i64 nv] 3)))).grown hgrow hlow (Nat.le_of_lt hblt)
            have hR6 : Rd w0 b s3 row w6 := (hRd3.later (b1 w3 (.cells #[.int .i64 nv] 3))).grown hgrow (fun k hk => by have := hlow k hk; omega)
            go_wp2
            go_roundw
            case rel =>
              refine ⟨0 + 1, a ++ [nv], s3, by omega, by go_num, by rw [List.length_append]; simp [hal], by omega, by rw [intCells_snoc, List.length_append, hal]; exact hown', hR6, hM6, ?_⟩
              rw [hT1'.out, show decide (0 + 1 = 0) = false by simp]
              cases prB false ((wordsOf kd).drop (0 + 1)) s3 <;> simp
            case measure => simp [intOf]; omega
      · have h0' : (0 : Int) < (i : Int) := by omega
        rw [decide_eq_false h0] at hT
        simp only [Bool.false_eq_true, if_false] at hT
        cases hs1 : takeB [32] si with
        | none =>
          rw [hs1] at hT
          go_wp2_with (go_at_call 128; refine (takeR_no hRd hs1).mono ?_; rintro _ wq ⟨rfl, hMq⟩)
          exact ⟨rfl, Or.inl ⟨hT, rfl, hMd.trans hMq⟩⟩
        | some s1 =>
          have hT1 := hT
          rw [hs1, Option.bind_some] at hT1
          have hl1 := takeB_len hs1
          have hRdC := hRd
          have hMdC := hMd
          have hownC := hown
          clear hT hRd hMd hown
          cases ht : takeB (x ++ [32]) s1 with
          | none =>
            rw [ht] at hT1
            go_wp2_with (first | (go_at_call 128; refine (takeR_yes hRdC (by first | exact hs1 | exact ht)).mono ?_; rintro _ wn ⟨rfl, hRdN, hMN⟩; replace hMdC := hMdC.trans hMN; replace hownC := rowMid hownC hMN hblt; clear hRdC; have hRdC := hRdN; clear hRdN hMN) | (go_at_call 128; refine (takeR_no hRdC ht).mono ?_; rintro _ wq ⟨rfl, hMq⟩))
            exact ⟨rfl, Or.inl ⟨hT1, rfl, hMdC.trans hMq⟩⟩
          | some s2 =>
            have hl2 := takeB_len ht
            cases hn : numB s2 with
            | none =>
              rw [ht, Option.bind_some, hn] at hT1
              go_wp2_with (first | (go_at_call 128; refine (takeR_yes hRdC (by first | exact hs1 | exact ht)).mono ?_; rintro _ wn ⟨rfl, hRdN, hMN⟩; replace hMdC := hMdC.trans hMN; replace hownC := rowMid hownC hMN hblt; clear hRdC; have hRdC := hRdN; clear hRdN hMN) | (go_at_call 129; refine (number_no w0 b s2 row _ hRdC hL (by omega) hn).mono ?_; rintro _ wq ⟨rfl, hMq⟩))
              exact ⟨rfl, Or.inl ⟨hT1, rfl, hMdC.trans hMq⟩⟩
            | some nr =>
              obtain ⟨na, s3⟩ := nr
              obtain ⟨hk, rfl, rfl⟩ := numB_parts hn
              rw [ht, Option.bind_some, hn, Option.bind_some] at hT1
              have hN := fun W (h : Rd w0 b s2 row W) => number_yes w0 b s2 row W h hL (by omega) hk
              have hl3 : (s2.drop (s2.takeWhile dig).length).length ≤ s2.length := by rw [List.length_drop]; omega
              generalize s2.drop (s2.takeWhile dig).length = s3 at hT1 hN hl3
              generalize numVal (s2.takeWhile dig) = nv at hT1 hN
              have hT1' : Hid _ := hT1
              clear hT1 hn hk
              go_wp2_with (first | (go_at_call 128; refine (takeR_yes hRdC (by first | exact hs1 | exact ht)).mono ?_; rintro _ wn ⟨rfl, hRdN, hMN⟩; replace hMdC := hMdC.trans hMN; replace hownC := rowMid hownC hMN hblt; clear hRdC; have hRdC := hRdN; clear hRdN hMN) | (go_at_call 129; refine (hN _ hRdC).mono ?_; rintro _ w3 ⟨rfl, hRd3, hM3⟩; have hown3 := rowMid hownC hM3 hblt; have hsz3 := (hMdC.trans hM3).below.size) | (at_builtin; refine wpList_append_own _ rfl _ _ 23 rfl w.heap.size 3 i0 _ 1 8 Tryz.underlying23 hi hz0 hz1 hz2 rfl (by decide) _ _ _ rfl (hown3.alloc _) ⟨w3.heap.size, 0, none⟩ 1 1 [.int .i64 nv] rfl rfl cells1_lie one1 (by unfold maxLen; omega) (by omega) (by simp only [World.size_alloc]; omega) ?_))
              intro v' w6 hown' hgrow _
              have hlow : ∀ k, u5.ownBlock = some k → w.heap.size ≤ k := fun k hk => (hown3.lt k hk).1
              have hM6 : Mid b (b + 1) w w6 := ((hMdC.trans hM3).trans (hRd3.ofBelow (b1 w3 (.cells #[.int .i64 nv] 3)))).grown hgrow hlow (Nat.le_of_lt hblt)
              have hR6 : Rd w0 b s3 row w6 := (hRd3.later (b1 w3 (.cells #[.int .i64 nv] 3))).grown hgrow (fun k hk => by have := hlow k hk; omega)
              go_wp2
              go_roundw
              case rel =>
                refine ⟨i + 1, a ++ [nv], s3, by omega, by go_num, by rw [List.length_append]; simp [hal], by omega, by rw [intCells_snoc, List.length_append, hal]; exact hown', hR6, hM6, ?_⟩
                rw [hT1'.out, show decide (i + 1 = 0) = false by simp]
                cases prB false ((wordsOf kd).drop (i + 1)) s3 <;> simp
              case measure => simp [intOf]; omega
    · obtain rfl : i = (wordsOf kd).length := by omega
      rw [List.drop_length] at hT
      go_wp2
      go_ret
      exact Or.inr ⟨a, si, u5, by rw [hT]; simp [prB], rfl, hown, hRd, hMd⟩

section
variable {w0 w : World} {b : Nat} {s : Bs} {row : Int}
theorem pairs_no {kd : Nat} (hkd : kd < 4) (hR : Rd w0 b s row w) (hL : LaidR w0) (hs : s.length ≤ 4000) (h : prB true (wordsOf kd) s = none) :
    Calls Tryz.prog 126 #[.pointer (some ⟨b, 0, none⟩), .int .i64 kd] w fun e w' => Quit b row w e w' := by
  refine (pairs_any w0 b s row kd w hkd hR hL hs).mono ?_
  rintro e w' (⟨_, hq⟩ | ⟨a, r, v, h1, _⟩)
  · exact hq
  · rw [h] at h1; cases h1
theorem pairs_yes {kd : Nat} {a : List Int} {r : Bs} (hkd : kd < 4) (hR : Rd w0 b s row w) (hL : LaidR w0) (hs : s.length ≤ 4000) (h : prB true (wordsOf kd) s = some (a, r)) :
    Calls Tryz.prog 126 #[.pointer (some ⟨b, 0, none⟩), .int .i64 kd] w fun e w' => ∃ v, e = .returned v ∧ w'.ownsRow w.heap.size 3 1 v a.length (intCells a) ∧ Rd w0 b r row w' ∧ Mid b (b + 1) w w' := by
  refine (pairs_any w0 b s row kd w hkd hR hL hs).mono ?_
  rintro e w' (⟨h1, _⟩ | ⟨a', r', v, h1, h2⟩)
  · rw [h] at h1; cases h1
  · rw [h] at h1; cases h1; exact ⟨v, h2⟩
theorem endR_no (hR : Rd w0 b s row w) (h : takeB [10] s = none) : Calls Tryz.prog 130 #[.pointer (some ⟨b, 0, none⟩)] w fun e w' => Quit b row w e w' := by
  have hp : [10].isPrefixOf s = false := by
    unfold takeB at h
    split at h
    · cases h
    · rename_i h2; exact Bool.eq_false_iff.2 h2
  refine (endRow_no b s row w hR.c0 hR.c1 hp).mono ?_
  rintro _ _ ⟨rfl, rfl⟩
  exact ⟨rfl, Mid.refl _ _ _⟩
theorem endR_yes (hR : Rd w0 b s row w) (hr : 0 ≤ row) (hr1 : row ≤ 1000000) {r : Bs} (h : takeB [10] s = some r) : Calls Tryz.prog 130 #[.pointer (some ⟨b, 0, none⟩)] w fun e w' => e = .returned (.tuple #[]) ∧ Rd w0 b r (row + 1) w' ∧ Mid b (b + 1) w w' := by
  have hp : [10].isPrefixOf s = true ∧ s.drop 1 = r := by
    unfold takeB at h
    split at h
    · rename_i h2; exact ⟨h2, Option.some.inj h⟩
    · cases h
  refine (endRow_yes b s row w hR.c0 hR.z0 hR.c1 hR.z1 hr hr1 hp.1).mono ?_
  rintro _ _ ⟨rfl, rfl⟩
  rw [hp.2]
  exact ⟨rfl, (hR.take r).next (row + 1), (way_take hR _ 0).trans (way_take (hR.take r) _ 1)⟩

set_option maxHeartbeats 2000000 in
theorem numbers_no {kd : Nat} (hkd : kd < 4) (hR : Rd w0 b s row w) (hL : LaidR w0) (hs : s.length ≤ 4000) (h : numbersB kd s = none) :
    Calls Tryz.prog 104 #[.pointer (some ⟨b, 0, none⟩), .int .i64 kd] w fun e w' => Quit b row w e w' := by
  unfold numbersB at h
  cases h1 : prB true (wordsOf kd) s with
  | none =>
    have hP := pairs_no hkd hR hL hs h1
    go_enter Tryz.func104, Tryz.ntmps104
    go_wp2_with (go_at_call 126; refine hP.mono ?_; rintro _ w2 ⟨rfl, hM2⟩)
    exact ⟨rfl, rfl, hM2⟩
  | some x =>
    obtain ⟨a, r⟩ := x
    rw [h1, Option.bind_some] at h
    have h2 : takeB [10] r = none := by
      cases h3 : takeB [10] r with
      | none => rfl
      | some q => rw [h3] at h; cases h
    have hP := pairs_yes hkd hR hL hs h1
    go_enter Tryz.func104, Tryz.ntmps104
    go_wp2_with (first | (go_at_call 126; refine hP.mono ?_; rintro _ w2 ⟨v, rfl, hown2, hR2, hM2⟩) | (go_at_call 130; refine (endR_no hR2 h2).mono ?_; rintro _ w3 ⟨rfl, hM3⟩))
    exact ⟨rfl, rfl, hM2.trans hM3⟩
set_option maxHeartbeats 2000000 in
theorem numbers_yes {kd : Nat} {a : List Int} {r : Bs} (hkd : kd < 4) (hR : Rd w0 b s row w) (hL : LaidR w0) (hs : s.length ≤ 4000) (hr : 0 ≤ row) (hr1 : row ≤ 1000000) (h : numbersB kd s = some (a, r)) :
    Calls Tryz.prog 104 #[.pointer (some ⟨b, 0, none⟩), .int .i64 kd] w fun e w' => ∃ v, e = .returned v ∧ w'.ownsRow w.heap.size 3 1 v a.length (intCells a) ∧ Rd w0 b r (row + 1) w' ∧ Mid b (b + 1) w w' := by
  have hblt : b < w.heap.size := ltCell hR.c0
  unfold numbersB at h
  cases h1 : prB true (wordsOf kd) s with
  | none => rw [h1] at h; cases h
  | some x =>
    obtain ⟨a', r'⟩ := x
    rw [h1, Option.bind_some] at h
    cases h2 : takeB [10] r' with
    | none => rw [h2] at h; cases h
    | some q =>
      rw [h2] at h
      cases h
      have hP := pairs_yes hkd hR hL hs h1
      go_enter Tryz.func104, Tryz.ntmps104
      go_wp2_with (first | (go_at_call 126; refine hP.mono ?_; rintro _ w2 ⟨v, rfl, hown2, hR2, hM2⟩) | (go_at_call 130; refine (endR_yes hR2 hr hr1 h2).mono ?_; rintro _ w3 ⟨rfl, hR3, hM3⟩))
      go_ret
      exact ⟨v, rfl, rowMid hown2 hM3 hblt, hR3, hM2.trans hM3⟩
end
end Go.Proofs.YtnjaegeapcijpaaGreatDoor

namespace Go.Proofs.YtnjaegeapcijpaaGreatDoor
open Go.RowKit

def lenOf : Value → Nat
  | .slice _ n _ => n
  | _ => 0
theorem prB_one {w : Bs} {s r : Bs} {a : List Int} (h : prB true [w] s = some (a, r)) : a.length = 1 ∧ r.length ≤ s.length := by
  simp only [prB, if_true, Option.bind_some] at h
  cases h1 : takeB (w ++ [32]) s with
  | none => rw [h1] at h; cases h
  | some q =>
    rw [h1, Option.bind_some] at h
    cases h2 : numB q with
    | none => rw [h2] at h; cases h
    | some x =>
      obtain ⟨na, q2⟩ := x
      rw [h2] at h
      obtain ⟨_, rfl, rfl⟩ := numB_parts h2
      simp at h
      obtain ⟨rfl, rfl⟩ := h
      have := takeB_len h1
      refine ⟨rfl, ?_⟩
      simp; omega

set_option maxRecDepth 20000 in
set_option maxHeartbeats 8000000 in
theorem tracks_any (w0 : World) (b : Nat) (s : Bs) (row : Int) (w : World) (hR : Rd w0 b s row w) (hL : LaidR w0) (hs : s.length ≤ 4000) (hr : 0 ≤ row) (hr1 : row ≤ 1000000) :
    Calls Tryz.prog 103 #[.pointer (some ⟨b, 0, none⟩)] w fun e w' => (tracksB s = none ∧ Quit b row w e w') ∨ ∃ a r v, tracksB s = some (a, r) ∧ e = .returned v ∧ w'.ownsRow w.heap.size 3 1 v a.length (intCells a) ∧ Rd w0 b r (row + 1) w' ∧ Mid b (b + 1) w w' := by
  obtain ⟨i0, hi, hz0, hz1, hz2⟩ := info3 Tryz.infoInt
  have hblt : b < w.heap.size := ltCell hR.c0
  unfold tracksB
  cases h1 : prB true (wordsOf 0) s with
  | none =>
    have hP := pairs_no (kd := 0) (by decide) hR hL hs h1
    go_enter Tryz.func103, Tryz.ntmps103
    go_wp2_with (go_at_call 126; refine hP.mono ?_; rintro _ w2 ⟨rfl, hM2⟩)
    exact ⟨rfl, Or.inl ⟨rfl, rfl, hM2⟩⟩
  | some x =>
    obtain ⟨a0, r0⟩ := x
    rw [Option.bind_some]
    have hP := pairs_yes (kd := 0) (by decide) hR hL hs h1
    obtain ⟨hal0, hrl0⟩ := prB_one (w := (wordsOf 0)[0]!) h1
    generalize hT0 : ((trB 38 r0).map fun y => (a0 ++ y.1, y.2)) = T
    go_enter Tryz.func103, Tryz.ntmps103
    go_wp2_with (go_at_call 126; refine hP.mono ?_; rintro _ w2 ⟨v0, rfl, hown0, hR0, hM0⟩)
    go_loopw [3] (fun oo wr => ∃ (a : List Int) (si : Bs), 1 ≤ a.length ∧ a.length ≤ 39 ∧ si.length ≤ 4000 ∧ wr.ownsRow w.heap.size 3 1 oo a.length (intCells a) ∧ Rd w0 b si row wr ∧ Mid b (b + 1) w wr ∧ T = (trB (39 - a.length) si).map fun y => (a ++ y.1, y.2)) (fun oo _ => 39 - lenOf oo)
    case atStart => exact ⟨a0, r0, by omega, by omega, by omega, hown0, hR0, hM0, by rw [← hT0, hal0]⟩
    case round =>
      obtain ⟨a, si, ha1, ha2, hsi, hown, hRd, hMd, hT⟩ := hrel
      obtain ⟨g, cp, rfl⟩ := Joins.ownsRow_form hown (by omega)
      clear hT0 hown0 hR0 hM0 h1
      by_cases hlt : a.length < 39
      · have hlt' : (a.length : Int) < 39 := by omega
        obtain ⟨k, hk⟩ : ∃ k, 39 - a.length = k + 1 := ⟨38 - a.length, by omega⟩
        rw [hk, trB] at hT
        have hC := fun W (h : Rd w0 b si row W) => comes_any b si [32] W h.c0
        by_cases hp : [32].isPrefixOf si = true
        · rw [if_pos hp] at hT
          rw [hp] at hC
          have ht : takeB [32] si = some (si.drop 1) := by unfold takeB; rw [if_pos hp]; rfl
          generalize si.drop 1 = s2 at ht hT
          have hl2 := takeB_len ht
          cases hn : numB s2 with
          | none =>
            rw [hn] at hT
            go_wp2_with (first | (go_at_call 127; refine (hC _ hRd).mono ?_; rintro _ _ ⟨rfl, rfl⟩) | (go_at_call 128; refine (takeR_yes hRd ht).mono ?_; rintro _ w2 ⟨rfl, hRd2, hM2⟩) | (go_at_call 129; refine (number_no w0 b s2 row _ hRd2 hL (by omega) hn).mono ?_; rintro _ wq ⟨rfl, hMq⟩))
            exact ⟨rfl, Or.inl ⟨hT, rfl, (hMd.trans hM2).trans hMq⟩⟩
          | some nr =>
            obtain ⟨na, s3⟩ := nr
            obtain ⟨hk2, rfl, rfl⟩ := numB_parts hn
            rw [hn, Option.bind_some] at hT
            have hN := fun W (h : Rd w0 b s2 row W) => number_yes w0 b s2 row W h hL (by omega) hk2
            have hl3 : (s2.drop (s2.takeWhile dig).length).length ≤ s2.length := by rw [List.length_drop]; omega
            generalize s2.drop (s2.takeWhile dig).length = s3 at hT hN hl3
            generalize numVal (s2.takeWhile dig) = nv at hT hN
            have hT' : Hid _ := hT
            have hk' : Hid _ := hk
            clear hT hn hk2 hk
            go_wp2_with (first | (go_at_call 127; refine (hC _ hRd).mono ?_; rintro _ _ ⟨rfl, rfl⟩) | (go_at_call 128; refine (takeR_yes hRd ht).mono ?_; rintro _ w2 ⟨rfl, hRd2, hM2⟩) | (go_at_call 129; refine (hN _ hRd2).mono ?_; rintro _ w3 ⟨rfl, hRd3, hM3⟩; have hown3 := rowMid (rowMid hown hM2 hblt) hM3 hblt; have hsz3 := ((hMd.trans hM2).trans hM3).below.size) | (at_builtin; refine wpList_append_own _ rfl _ _ 23 rfl w.heap.size 3 i0 _ 1 8 Tryz.underlying23 hi hz0 hz1 hz2 rfl (by decide) _ _ _ rfl (hown3.alloc _) ⟨w3.heap.size, 0, none⟩ 1 1 [.int .i64 nv] rfl rfl cells1_lie one1 (by unfold maxLen; omega) (by omega) (by simp only [World.size_alloc]; omega) ?_))
            intro v' w6 hown' hgrow _
            have hlow : ∀ k, (Value.slice (some ⟨g, 0, none⟩) a.length cp).ownBlock = some k → w.heap.size ≤ k := fun k hk => (hown3.lt k hk).1
            have hM6 : Mid b (b + 1) w w6 := (((hMd.trans hM2).trans hM3).trans (hRd3.ofBelow (b1 w3 (.cells #[.int .i64 nv] 3)))).grown hgrow hlow (Nat.le_of_lt hblt)
            have hR6 : Rd w0 b s3 row w6 := (hRd3.later (b1 w3 (.cells #[.int .i64 nv] 3))).grown hgrow (fun k hk => by have := hlow k hk; omega)
            obtain ⟨g', cp', rfl⟩ := Joins.ownsRow_form hown' (by omega)
            go_wp2
            go_roundw
            case rel =>
              refine ⟨a ++ [nv], s3, by rw [List.length_append]; simp, by rw [List.length_append]; simp; omega, by omega, by rw [intCells_snoc, List.length_append]; exact hown', hR6, hM6, ?_⟩
              have hk := hk'.out
              rw [hT'.out, show 39 - (a ++ [nv]).length = k by rw [List.length_append]; simp; omega]
              cases trB k s3 <;> simp
            case measure => simp only [lenOf]; omega
        · rw [if_neg hp] at hT
          rw [Bool.eq_false_iff.2 hp] at hC
          cases ht : takeB [10] si with
          | none =>
            rw [ht] at hT
            go_wp2_with (first | (go_at_call 127; refine (hC _ hRd).mono ?_; rintro _ _ ⟨rfl, rfl⟩) | (go_at_call 130; refine (endR_no hRd ht).mono ?_; rintro _ wq ⟨rfl, hMq⟩))
            exact ⟨rfl, Or.inl ⟨hT, rfl, hMd.trans hMq⟩⟩
          | some q =>
            rw [ht] at hT
            go_wp2_with (first | (go_at_call 127; refine (hC _ hRd).mono ?_; rintro _ _ ⟨rfl, rfl⟩) | (go_at_call 130; refine (endR_yes hRd hr hr1 ht).mono ?_; rintro _ w3 ⟨rfl, hR3, hM3⟩))
            go_ret
            exact Or.inr ⟨a, q, _, by rw [hT]; simp, rfl, rowMid hown hM3 hblt, hR3, hMd.trans hM3⟩
      · have hlt' : ¬ ((a.length : Int) < 39) := by omega
        rw [show 39 - a.length = 0 by omega, trB] at hT
        cases ht : takeB [10] si with
        | none =>
          rw [ht] at hT
          go_wp2_with (first | (go_at_call 130; refine (endR_no hRd ht).mono ?_; rintro _ wq ⟨rfl, hMq⟩))
          exact ⟨rfl, Or.inl ⟨hT, rfl, hMd.trans hMq⟩⟩
        | some q =>
          rw [ht] at hT
          go_wp2_with (first | (go_at_call 130; refine (endR_yes hRd hr hr1 ht).mono ?_; rintro _ w3 ⟨rfl, hR3, hM3⟩))
          go_ret
          exact Or.inr ⟨a, q, _, by rw [hT]; simp, rfl, rowMid hown hM3 hblt, hR3, hMd.trans hM3⟩
end Go.Proofs.YtnjaegeapcijpaaGreatDoor

namespace Go.Proofs.YtnjaegeapcijpaaGreatDoor
open Go.RowKit

theorem numB_good {s r : Bs} {a : List Int} (h : numB s = some (a, r)) : a.length = 1 ∧ r.length ≤ s.length ∧ ∀ z ∈ a, 0 ≤ z ∧ z ≤ 9999999 := by
  obtain ⟨hk, rfl, rfl⟩ := numB_parts h
  obtain ⟨_, h0, h1, _⟩ := num_ok hk
  exact ⟨rfl, by rw [List.length_drop]; omega, fun z hz => by rw [List.mem_singleton] at hz; subst hz; exact ⟨h0, h1⟩⟩
theorem prB_good (ws : List Bs) : ∀ (f : Bool) (s r : Bs) (a : List Int), prB f ws s = some (a, r) → a.length = ws.length ∧ r.length ≤ s.length ∧ ∀ z ∈ a, 0 ≤ z ∧ z ≤ 9999999 := by
  induction ws with
  | nil => intro f s r a h; simp only [prB, Option.some.injEq, Prod.mk.injEq] at h; obtain ⟨rfl, rfl⟩ := h; exact ⟨rfl, Nat.le_refl _, fun z hz => by cases hz⟩
  | cons w ws ih =>
    intro f s r a h
    rw [prB_cons] at h
    have h0 : ∃ s1, (if f then some s else takeB [32] s) = some s1 ∧ s1.length ≤ s.length := by
      cases f with
      | true => exact ⟨s, rfl, Nat.le_refl _⟩
      | false =>
        cases e : takeB [32] s with
        | none => simp [e] at h
        | some q => exact ⟨q, rfl, takeB_len e⟩
    obtain ⟨s1, e1, l1⟩ := h0
    rw [e1, Option.bind_some] at h
    cases e2 : takeB (w ++ [32]) s1 with
    | none => rw [e2] at h; cases h
    | some s2 =>
      rw [e2, Option.bind_some] at h
      have l2 := takeB_len e2
      cases e3 : numB s2 with
      | none => rw [e3] at h; cases h
      | some x =>
        obtain ⟨na, s3⟩ := x
        obtain ⟨g1, g2, g3⟩ := numB_good e3
        rw [e3, Option.bind_some] at h
        cases e4 : prB false ws s3 with
        | none => rw [e4] at h; cases h
        | some y =>
          obtain ⟨ya, y2⟩ := y
          rw [e4] at h
          cases h
          obtain ⟨k1, k2, k3⟩ := ih false s3 _ ya e4
          dsimp only
          refine ⟨by simp [g1, k1]; omega, by omega, fun z hz => ?_⟩
          rcases List.mem_append.1 hz with hz | hz
          · exact g3 z hz
          · exact k3 z hz
theorem numbersB_good {kd : Nat} {s r : Bs} {a : List Int} (h : numbersB kd s = some (a, r)) : a.length = (wordsOf kd).length ∧ r.length < s.length ∧ ∀ z ∈ a, 0 ≤ z ∧ z ≤ 9999999 := by
  unfold numbersB at h
  cases e : prB true (wordsOf kd) s with
  | none => rw [e] at h; cases h
  | some x =>
    obtain ⟨xa, xr⟩ := x
    rw [e, Option.bind_some] at h
    obtain ⟨k1, k2, k3⟩ := prB_good _ _ _ _ _ e
    cases e2 : takeB [10] xr with
    | none => rw [e2] at h; cases h
    | some q =>
      rw [e2] at h
      cases h
      have := congrArg List.length (takeB_sub e2)
      simp at this
      exact ⟨k1, by omega, k3⟩
theorem trB_good (k : Nat) : ∀ (s r : Bs) (a : List Int), trB k s = some (a, r) → a.length ≤ k ∧ r.length < s.length ∧ ∀ z ∈ a, 0 ≤ z ∧ z ≤ 9999999 := by
  have fin : ∀ (k : Nat) (s r : Bs) (a : List Int), ((takeB [10] s).map fun r => (([] : List Int), r)) = some (a, r) → a.length ≤ k ∧ r.length < s.length ∧ ∀ z ∈ a, 0 ≤ z ∧ z ≤ 9999999 := fun k s r a h => by
    cases e2 : takeB [10] s with
    | none => rw [e2] at h; cases h
    | some q =>
      rw [e2] at h
      cases h
      have := congrArg List.length (takeB_sub e2)
      simp at this
      exact ⟨Nat.zero_le _, by omega, fun z hz => by cases hz⟩
  induction k with
  | zero => intro s r a h; exact fin 0 s r a h
  | succ k ih =>
    intro s r a h
    unfold trB at h
    split at h
    · cases e3 : numB (s.drop 1) with
      | none => rw [e3] at h; cases h
      | some x =>
        obtain ⟨na, s3⟩ := x
        obtain ⟨g1, g2, g3⟩ := numB_good e3
        rw [e3, Option.bind_some] at h
        cases e4 : trB k s3 with
        | none => rw [e4] at h; cases h
        | some y =>
          obtain ⟨ya, y2⟩ := y
          rw [e4] at h
          cases h
          obtain ⟨k1, k2, k3⟩ := ih s3 _ ya e4
          rw [List.length_drop] at g2
          dsimp only
          refine ⟨by simp [g1]; omega, by omega, fun z hz => ?_⟩
          rcases List.mem_append.1 hz with hz | hz
          · exact g3 z hz
          · exact k3 z hz
    · exact fin _ s r a h
theorem tracksB_good {s r : Bs} {a : List Int} (h : tracksB s = some (a, r)) : a.length ≤ 39 ∧ r.length < s.length ∧ ∀ z ∈ a, 0 ≤ z ∧ z ≤ 9999999 := by
  unfold tracksB at h
  cases e : prB true (wordsOf 0) s with
  | none => rw [e] at h; cases h
  | some x =>
    obtain ⟨xa, xr⟩ := x
    rw [e, Option.bind_some] at h
    obtain ⟨k1, k2, k3⟩ := prB_good _ _ _ _ _ e
    cases e2 : trB 38 xr with
    | none => rw [e2] at h; cases h
    | some y =>
      obtain ⟨ya, y2⟩ := y
      rw [e2] at h
      cases h
      obtain ⟨j1, j2, j3⟩ := trB_good 38 xr _ ya e2
      have hw : (wordsOf 0).length = 1 := rfl
      dsimp only
      refine ⟨by rw [List.length_append]; omega, by omega, fun z hz => ?_⟩
      rcases List.mem_append.1 hz with hz | hz
      · exact k3 z hz
      · exact j3 z hz

end Go.Proofs.YtnjaegeapcijpaaGreatDoor
