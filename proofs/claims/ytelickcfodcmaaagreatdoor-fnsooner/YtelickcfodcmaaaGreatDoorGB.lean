/-
  A text as plain bytes: its lines, and what is read of each.
  A row of trains of a call's own, each with its row of legs: no two in one block.
  A line of a call's own, in its box; how worlds go on.
  A drawn line, as plain data: it is right.
  The draws of the model: a line, a train's legs.
-/
import Derived.Test.YtelickcfodcmaaaGreatDoorGA
import Derived.Test.YtelickcfodcmaaaGreatDoorGroups
import Derived.Test.YtelickcfodcmaaaGreatDoorApp
import Derived.Lib.SmallJoins
import Derived.OneCell
import Derived.Deep.RegionHeld3
import Derived.Maps.AppendAt
namespace Go.Proofs.YtelickcfodcmaaaGreatDoor
open Go.RowKit

/-- numbers, each behind a blank, at most so many, and the row's end -/
def trB : Nat → Bs → Option (List Int × Bs)
  | 0, s => (takeB [10] s).map fun r => ([], r)
  | k + 1, s => if [32].isPrefixOf s then (numB (s.drop 1)).bind fun x => (trB k x.2).map fun y => (x.1 ++ y.1, y.2) else (takeB [10] s).map fun r => ([], r)
/-- words with a number behind each -/
def prB : Bool → List Bs → Bs → Option (List Int × Bs)
  | _, [], s => some ([], s)
  | f, w :: ws, s => (if f then some s else takeB [32] s).bind fun s1 => (takeB (w ++ [32]) s1).bind fun s2 => (numB s2).bind fun x => (prB false ws x.2).map fun y => (x.1 ++ y.1, y.2)
def tracksB (s : Bs) : Option (List Int × Bs) := (prB true (wordsOf 0) s).bind fun x => (trB 38 x.2).map fun y => (x.1 ++ y.1, y.2)
def numbersB (k : Nat) (s : Bs) : Option (List Int × Bs) := (prB true (wordsOf k) s).bind fun x => (takeB [10] x.2).map fun r => (x.1, r)
def toksOf : List Bs → List Tok
  | [] => []
  | w :: ws => .word w :: .num :: toksOf ws
def trackToks (n : Nat) : List Tok := .word (wordsOf 0)[0]! :: List.replicate (max 1 (min n 40 - 1)) .num
/-- what a line's words say, where they are as a kind of row has them -/
def tracksM (x : Bs) : Option (List Int) := likeB (trackToks (cutB x).length) (cutB x)
def numsM (k : Nat) (x : Bs) : Option (List Int) := likeB (toksOf (wordsOf k)) (cutB x)

instance (x : Bs) : Decidable (Free x) := inferInstanceAs (Decidable (∀ b ∈ x, b ≠ 32 ∧ b ≠ 10))
theorem takeB_app (p q s : Bs) : takeB (p ++ q) s = (takeB p s).bind (takeB q) := by
  unfold takeB
  by_cases h : p <+: s
  · obtain ⟨t, rfl⟩ := h
    have hp : p.isPrefixOf (p ++ t) = true := List.isPrefixOf_iff_prefix.2 (List.prefix_append _ _)
    rw [if_pos hp, List.drop_left]
    show _ = (if q.isPrefixOf t = true then some (t.drop q.length) else none)
    by_cases hq : q <+: t
    · obtain ⟨u, rfl⟩ := hq
      have h1 : q.isPrefixOf (q ++ u) = true := List.isPrefixOf_iff_prefix.2 (List.prefix_append _ _)
      have h2 : (p ++ q).isPrefixOf (p ++ (q ++ u)) = true := List.isPrefixOf_iff_prefix.2 (by rw [← List.append_assoc]; exact List.prefix_append _ _)
      rw [if_pos h1, if_pos h2, List.drop_left, ← List.append_assoc, List.drop_left]
    · have h1 : ¬ (q.isPrefixOf t = true) := fun e => hq (List.isPrefixOf_iff_prefix.1 e)
      have h2 : ¬ ((p ++ q).isPrefixOf (p ++ t) = true) := fun e => hq ((List.prefix_append_right_inj p).1 (List.isPrefixOf_iff_prefix.1 e))
      rw [if_neg h1, if_neg h2]
  · have hp : ¬ (p.isPrefixOf s = true) := fun e => h (List.isPrefixOf_iff_prefix.1 e)
    have h2 : ¬ ((p ++ q).isPrefixOf s = true) := fun e => h (List.IsPrefix.trans (List.prefix_append _ _) (List.isPrefixOf_iff_prefix.1 e))
    rw [if_neg hp, if_neg h2]
    rfl

theorem prB_rest (ws : List Bs) (s : Bs) : ((prB false ws s).bind fun x => (takeB [10] x.2).map fun r => (x.1, r)) = restB (toksOf ws) s := by
  induction ws generalizing s with
  | nil => simp [prB, toksOf, restB]
  | cons w ws ih =>
    simp only [prB, toksOf, restB, takeB_app, tokB_word, tokB_num]
    cases h1 : takeB [32] s with
    | none => simp
    | some s1 =>
      cases h2 : takeB w s1 with
      | none => simp [h2]
      | some s2 =>
        cases h3 : takeB [32] s2 with
        | none => simp [h2, h3]
        | some s3 =>
          cases h4 : numB s3 with
          | none => simp [h2, h3, h4]
          | some x =>
            have h5 := ih x.2
            simp only [h2, h3, h4, Option.bind_some, Option.map_some, Bool.false_eq_true, if_false, List.nil_append]
            rw [← h5]
            cases h6 : prB false ws x.2 with
            | none => simp
            | some y => cases h7 : takeB [10] y.2 <;> simp [h7]
theorem numbersB_row (k : Nat) (s : Bs) : numbersB k s = rowB (toksOf (wordsOf k)) s := by
  have hk : ∃ w ws, wordsOf k = w :: ws := by
    match k with
    | 0 => exact ⟨_, _, rfl⟩
    | 1 => exact ⟨_, _, rfl⟩
    | 2 => exact ⟨_, _, rfl⟩
    | _ + 3 => exact ⟨_, _, rfl⟩
  obtain ⟨w, ws, hw⟩ := hk
  unfold numbersB
  rw [hw]
  have h := prB_rest (w :: ws) (32 :: s)
  have e : prB false (w :: ws) (32 :: s) = prB true (w :: ws) s := by simp [prB, takeB_one]
  rw [e] at h
  rw [h, toksOf, restB, takeB_one, if_pos rfl]
  rfl

theorem trB_tail (k : Nat) (xs : List Bs) (r : Bs) (hx : ∀ x ∈ xs, Free x) : trB k (tailT xs r) = (likeB (List.replicate (min xs.length k) .num) xs).map fun a => (a, r) := by
  induction k generalizing xs with
  | zero =>
    cases xs with
    | nil => simp [trB, tailT, takeB_one, likeB]
    | cons x xs => simp [trB, tailT, takeB_one, likeB]
  | succ k ih =>
    cases xs with
    | nil => simp [trB, tailT, takeB_one, likeB]
    | cons x xs =>
      have h1 := ih xs (fun x h => hx x (List.mem_cons_of_mem _ h))
      obtain ⟨e, s, hs, he⟩ := tailT_head xs r
      have hm : min (x :: xs).length (k + 1) = min xs.length k + 1 := by simp
      rw [hm, List.replicate_succ, likeB, tailT, trB, hs]
      rw [hs] at h1
      simp only [List.isPrefixOf, BEq.rfl, Bool.and_true, if_true, List.drop_succ_cons, List.drop_zero]
      have ht := tokB_at (t := .num) (r := s) trivial (hx x (List.mem_cons_self ..)) he
      rw [tokB_num] at ht
      rcases ht with ⟨a, h2, h3⟩ | ⟨h2, h3 | ⟨a, c, q, h3, hc⟩⟩
      · rw [h2, h3]
        show (trB k (e :: s)).map _ = ((likeB _ xs).map _).map _
        rw [h1]
        cases likeB (List.replicate (min xs.length k) Tok.num) xs <;> rfl
      · rw [h2, h3]; rfl
      · rw [h2, h3]
        show (trB k (c :: q)).map _ = none
        cases k with
        | zero => simp [trB, takeB_one, hc.2.symm]
        | succ k => simp [trB, takeB_one, hc.2.symm, hc.1.symm]

theorem tracksB_line (l r : Bs) (h : ∀ b ∈ l, b ≠ 10) : tracksB (l ++ 10 :: r) = (tracksM l).map fun a => (a, r) := by
  obtain ⟨x, xs, hc, he, hf⟩ := cutB_line l r h
  unfold tracksM tracksB
  rw [hc, he]
  have hw : wordsOf 0 = [(wordsOf 0)[0]!] := rfl
  have hg : Free (wordsOf 0)[0]! := by decide
  generalize (wordsOf 0)[0]! = W at hw hg
  rw [hw]
  obtain ⟨e, s, hs, hes⟩ := tailT_head xs r
  have ht := tokB_at (t := .word W) (r := s) hg (hf x (List.mem_cons_self ..)) hes
  have hfx : ∀ y ∈ xs, Free y := fun y hy => hf y (List.mem_cons_of_mem _ hy)
  unfold trackToks
  rw [show (wordsOf 0)[0]! = W from by rw [hw]; rfl]
  simp only [prB, takeB_app, if_true, Option.bind_some, likeB]
  rw [tokB_word] at ht
  rw [hs]
  rcases ht with ⟨a, h2, h3⟩ | ⟨h2, h3 | ⟨a, c, q, h3, hcq⟩⟩
  · rw [h2]
    cases h4 : takeB W (x ++ e :: s) with
    | none => rw [h4] at h3; cases h3
    | some q =>
      rw [h4] at h3
      simp only [Option.map_some, Option.some.injEq, Prod.mk.injEq] at h3
      obtain ⟨rfl, rfl⟩ := h3
      rw [← hs]
      cases xs with
      | nil => simp [tailT, takeB_one, likeB]
      | cons y ys =>
        have hm : max 1 (min (x :: y :: ys).length 40 - 1) = min ys.length 38 + 1 := by simp only [List.length_cons]; omega
        rw [hm, List.replicate_succ, likeB, tailT]
        simp only [Option.bind_some, takeB_one, if_true, List.nil_append]
        have h1 := trB_tail 38 ys r (fun z hz => hfx z (List.mem_cons_of_mem _ hz))
        obtain ⟨e', s', hs', he'⟩ := tailT_head ys r
        rw [hs'] at h1 ⊢
        have ht := tokB_at (t := .num) (r := s') trivial (hfx y (List.mem_cons_self ..)) he'
        rw [tokB_num] at ht
        rcases ht with ⟨a, h2, h3⟩ | ⟨h2, h3 | ⟨a, c, q, h3, hc⟩⟩
        · rw [h2, h3]
          simp only [Option.bind_some, Option.map_some, List.append_nil]
          rw [h1]
          cases likeB (List.replicate (min ys.length 38) Tok.num) ys <;> rfl
        · rw [h2, h3]; rfl
        · rw [h2, h3]
          simp only [Option.bind_some, Option.map_some]
          simp [trB, takeB_one, hc.2.symm, hc.1.symm]
  · rw [h2]
    cases h4 : takeB W (x ++ e :: s) with
    | none => rfl
    | some q => rw [h4] at h3; cases h3
  · rw [h2]
    cases h4 : takeB W (x ++ e :: s) with
    | none => rfl
    | some q' =>
      rw [h4] at h3
      simp only [Option.map_some, Option.some.injEq, Prod.mk.injEq] at h3
      obtain ⟨_, rfl⟩ := h3
      simp [takeB_one, hcq.1.symm]

theorem trB_newline {k : Nat} {s r : Bs} {a : List Int} (h : trB k s = some (a, r)) : 10 ∈ s := by
  induction k generalizing s a with
  | zero =>
    unfold trB at h
    cases e : takeB [10] s with
    | none => rw [e] at h; cases h
    | some q => rw [takeB_sub e]; simp
  | succ k ih =>
    unfold trB at h
    split at h
    · cases e2 : numB (s.drop 1) with
      | none => rw [e2] at h; cases h
      | some x =>
        obtain ⟨b, q2⟩ := x
        rw [e2, Option.bind_some] at h
        cases e3 : trB k q2 with
        | none => simp [e3] at h
        | some y =>
          obtain ⟨y1, y2⟩ := y
          simp [e3] at h
          obtain ⟨p, hp⟩ := tokB_sub (t := .num) e2
          have := ih (s := q2) (a := y1) (by rw [e3, h.2])
          have hm : 10 ∈ s.drop 1 := by rw [hp]; simp [this]
          exact List.mem_of_mem_drop hm
    · cases e : takeB [10] s with
      | none => rw [e] at h; cases h
      | some q => rw [takeB_sub e]; simp
theorem tracksB_none (s : Bs) (h : 10 ∉ s) : tracksB s = none := by
  unfold tracksB
  have hw : wordsOf 0 = [(wordsOf 0)[0]!] := rfl
  generalize (wordsOf 0)[0]! = W at hw
  rw [hw]
  simp only [prB, if_true, Option.bind_some]
  cases h4 : takeB (W ++ [32]) s with
  | none => rfl
  | some q =>
    cases h5 : numB q with
    | none => simp [h5]
    | some x =>
      obtain ⟨b, q2⟩ := x
      obtain ⟨p, hp⟩ := tokB_sub (t := .num) h5
      cases h6 : trB 38 q2 with
      | none => simp [h5, h6]
      | some y =>
        have := trB_newline h6
        exact absurd (by rw [takeB_sub h4, hp]; simp [this]) h

/-- lines, and what stands behind the last newline -/
def unl : List Bs → Bs → Bs
  | [], r => r
  | x :: xs, r => x ++ 10 :: unl xs r
def cutN : Bs → List Bs × Bs
  | [] => ([], [])
  | b :: t => if b = 10 then ([] :: (cutN t).1, (cutN t).2) else match (cutN t).1 with
    | [] => ([], b :: (cutN t).2)
    | x :: xs => ((b :: x) :: xs, (cutN t).2)
theorem cutN_all (s : Bs) : unl (cutN s).1 (cutN s).2 = s ∧ 10 ∉ (cutN s).2 ∧ ∀ x ∈ (cutN s).1, ∀ b ∈ x, b ≠ 10 := by
  induction s with
  | nil => exact ⟨rfl, by simp [cutN], by simp [cutN]⟩
  | cons b t ih =>
    obtain ⟨h1, h2, h3⟩ := ih
    by_cases hb : b = 10
    · subst hb
      refine ⟨by simp [cutN, unl, h1], by simp [cutN, h2], ?_⟩
      simp only [cutN, if_true, List.mem_cons, forall_eq_or_imp]
      exact ⟨by simp, h3⟩
    · cases hx : (cutN t).1 with
      | nil =>
        rw [hx] at h1
        simp only [cutN, hb, if_false, hx]
        refine ⟨by simp only [unl] at h1 ⊢; rw [h1], ?_, by simp⟩
        simp only [List.mem_cons, not_or]
        exact ⟨fun e => hb e.symm, h2⟩
      | cons x xs =>
        rw [hx] at h1 h3
        simp only [cutN, hb, if_false, hx]
        refine ⟨by simp only [unl, List.cons_append] at h1 ⊢; rw [h1], h2, ?_⟩
        intro y hy c hc
        rcases List.mem_cons.1 hy with rfl | hy
        · rcases List.mem_cons.1 hc with rfl | hc
          · exact hb
          · exact h3 x (List.mem_cons_self ..) c hc
        · exact h3 y (List.mem_cons_of_mem _ hy) c hc
theorem unl_length (xs : List Bs) (r : Bs) : xs.length + r.length ≤ (unl xs r).length := by
  induction xs with
  | nil => simp [unl]
  | cons x xs ih => simp only [unl, List.length_cons, List.length_append]; omega

structure TrL where
  frm : Int
  ready : Int
  due : Int
  weight : Int
  legs : List LegD
structure LnL where
  tracks : List Int
  gap : Int
  trains : List TrL
def nilL : LnL := ⟨[], 0, []⟩
def trL (a : List Int) : TrL := ⟨a.getD 0 0, a.getD 1 0, a.getD 2 0, a.getD 3 0, []⟩
def legL (a : List Int) : LegD := ⟨a.getD 0 0, a.getD 1 0, a.getD 2 0⟩
def TrL.add (t : TrL) (g : LegD) : TrL := { t with legs := t.legs ++ [g] }
def addLeg (ts : List TrL) (g : LegD) : List TrL := match ts.getLast? with
  | none => []
  | some t => ts.dropLast ++ [t.add g]
theorem addLeg_snoc (ts : List TrL) (t : TrL) (g : LegD) : addLeg (ts ++ [t]) g = ts ++ [t.add g] := by simp [addLeg]
/-- a line of a text, by its number -/
def takeM (l : LnL) (x : Bs) (n : Nat) : Option LnL :=
  if n = 0 then (tracksM x).map fun a => { l with tracks := a }
  else if n = 1 then (numsM 1 x).map fun a => { l with gap := a.getD 0 0 }
  else if (cutB x).head? = some (wordsOf 2)[0]! then (numsM 2 x).map fun a => { l with trains := l.trains ++ [trL a] }
  else (numsM 3 x).bind fun a => if l.trains = [] then none else some { l with trains := addLeg l.trains (legL a) }
def goM : LnL → Nat → List Bs → Bs → Sum LnL Nat
  | l, n, [], r => if r ≠ [] ∨ n < 2 then .inr (n + 1) else .inl l
  | l, n, x :: xs, r => match takeM l x n with
    | none => .inr (n + 1)
    | some l' => goM l' (n + 1) xs r

theorem likeB_head {w : Bs} {ts : List Tok} {c : List Bs} {a : List Int} (h : likeB (.word w :: ts) c = some a) : c.head? = some w := by
  cases c with
  | nil => simp [likeB] at h
  | cons x xs =>
    simp only [likeB, tokOk_word] at h
    by_cases e : x = w
    · rw [e]; rfl
    · simp [e] at h
theorem cutB_head (x : Bs) {w : Bs} (h : (cutB x).head? = some w) : w <+: x := by
  induction x generalizing w with
  | nil => simp only [cutB, List.head?_cons, Option.some.injEq] at h; subst h; exact List.prefix_refl _
  | cons b t ih =>
    unfold cutB at h
    split at h
    · simp only [List.head?_cons, Option.some.injEq] at h; subst h; exact List.nil_prefix
    · split at h
      · rename_i y ys hc
        simp only [List.head?_cons, Option.some.injEq] at h
        subst h
        exact (List.cons_prefix_cons).2 ⟨rfl, ih (by rw [hc]; rfl)⟩
      · simp only [List.head?_cons, Option.some.injEq] at h; subst h; exact (List.cons_prefix_cons).2 ⟨rfl, List.nil_prefix⟩

/-- the lines left, and what is read -/
structure Left (s : Bs) (l : LnL) (n : Nat) (xs : List Bs) (r : Bs) : Prop where
  text : s = unl xs r
  rest : 10 ∉ r
  lines : ∀ x ∈ xs, ∀ b ∈ x, b ≠ 10
theorem Left.tail {s : Bs} {l l' : LnL} {n : Nat} {x : Bs} {xs : List Bs} {r : Bs} (h : Left s l n (x :: xs) r) : Left (unl xs r) l' (n + 1) xs r := ⟨rfl, h.rest, fun y hy => h.lines y (List.mem_cons_of_mem _ hy)⟩

theorem tracks_step {s : Bs} {l : LnL} {xs : List Bs} {r : Bs} (h : Left s l 0 xs r) :
    (tracksB s = none ∧ goM l 0 xs r = .inr 1) ∨ ∃ a s' xs', tracksB s = some (a, s') ∧ xs.length = xs'.length + 1 ∧ Left s' { l with tracks := a } 1 xs' r ∧ goM l 0 xs r = goM { l with tracks := a } 1 xs' r := by
  cases xs with
  | nil =>
    refine Or.inl ⟨?_, by simp [goM]⟩
    rw [h.text]; exact tracksB_none _ h.rest
  | cons x xs =>
    have e := tracksB_line x (unl xs r) (h.lines x (List.mem_cons_self ..))
    rw [h.text]
    show (tracksB (x ++ 10 :: unl xs r) = none ∧ _) ∨ ∃ a s' xs', tracksB (x ++ 10 :: unl xs r) = some (a, s') ∧ _
    rw [e]
    cases ht : tracksM x with
    | none => exact Or.inl ⟨rfl, by simp [goM, takeM, ht]⟩
    | some a => exact Or.inr ⟨a, _, xs, rfl, rfl, h.tail, by simp [goM, takeM, ht]⟩
theorem good_toks (k : Nat) : ∀ t ∈ toksOf (wordsOf k), Good t := by
  have hw : ∀ ws : List Bs, (∀ w ∈ ws, Free w) → ∀ t ∈ toksOf ws, Good t := fun ws => by
    induction ws with
    | nil => intro _ t ht; simp [toksOf] at ht
    | cons w ws ih =>
      intro h t ht
      simp only [toksOf, List.mem_cons] at ht
      rcases ht with rfl | rfl | ht
      · exact h w (List.mem_cons_self ..)
      · trivial
      · exact ih (fun w hw => h w (List.mem_cons_of_mem _ hw)) t ht
  apply hw
  match k with
  | 0 => decide
  | 1 => decide
  | 2 => decide
  | _ + 3 => show ∀ w ∈ [[108, 101, 103], [114, 117, 110], [115, 116, 97, 121]], Free w; decide
theorem toks_ne (k : Nat) : toksOf (wordsOf k) ≠ [] := by
  match k with
  | 0 => simp [wordsOf, toksOf]
  | 1 => simp [wordsOf, toksOf]
  | 2 => simp [wordsOf, toksOf]
  | _ + 3 => simp [wordsOf, toksOf]
theorem numbers_line (k : Nat) (x r : Bs) (h : ∀ b ∈ x, b ≠ 10) : numbersB k (x ++ 10 :: r) = (numsM k x).map fun a => (a, r) := by
  rw [numbersB_row]; exact rowB_cut _ _ _ (toks_ne k) (good_toks k) h
theorem numbers_none (k : Nat) (s : Bs) (h : 10 ∉ s) : numbersB k s = none := by rw [numbersB_row]; exact rowB_none _ _ h
theorem gap_step {s : Bs} {l : LnL} {xs : List Bs} {r : Bs} (h : Left s l 1 xs r) :
    (numbersB 1 s = none ∧ goM l 1 xs r = .inr 2) ∨ ∃ a s' xs', numbersB 1 s = some (a, s') ∧ xs.length = xs'.length + 1 ∧ Left s' { l with gap := a.getD 0 0 } 2 xs' r ∧ goM l 1 xs r = goM { l with gap := a.getD 0 0 } 2 xs' r := by
  cases xs with
  | nil =>
    refine Or.inl ⟨?_, by simp [goM]⟩
    rw [h.text]; exact numbers_none _ _ h.rest
  | cons x xs =>
    have e := numbers_line 1 x (unl xs r) (h.lines x (List.mem_cons_self ..))
    rw [h.text]
    show (numbersB 1 (x ++ 10 :: unl xs r) = none ∧ _) ∨ ∃ a s' xs', numbersB 1 (x ++ 10 :: unl xs r) = some (a, s') ∧ _
    rw [e]
    cases ht : numsM 1 x with
    | none => exact Or.inl ⟨rfl, by simp [goM, takeM, ht]⟩
    | some a => exact Or.inr ⟨a, _, xs, rfl, rfl, h.tail, by simp [goM, takeM, ht]⟩
def legW : Bs := (wordsOf 3)[0]!
/-- the legs of a train are as they should be, up to the first row that is none -/
def legsOk : List Bs → Bs → Bool
  | [], r => !(legW.isPrefixOf r)
  | x :: xs, r => if legW.isPrefixOf (x ++ 10 :: unl xs r) then (numsM 3 x).isSome && legsOk xs r else true
def trainOk : List Bs → Bs → Bool
  | [], _ => false
  | x :: xs, r => (numsM 2 x).isSome && legsOk xs r
theorem legsOk_end {xs : List Bs} {r : Bs} (h : legW.isPrefixOf (unl xs r) = false) : legsOk xs r = true := by
  cases xs with
  | nil => simp only [legsOk]; simp only [unl] at h; rw [h]; rfl
  | cons x xs => simp only [legsOk]; simp only [unl] at h; rw [h]; rfl
theorem train_step {s : Bs} {l : LnL} {n : Nat} {xs : List Bs} {r : Bs} (h : Left s l n xs r) (hn : 2 ≤ n) (hs : s ≠ []) (hl : l.trains = [] ∨ legW.isPrefixOf s = false) :
    (numbersB 2 s = none ∧ goM l n xs r = .inr (n + 1) ∧ trainOk xs r = false) ∨ ∃ a s' xs', numbersB 2 s = some (a, s') ∧ trainOk xs r = legsOk xs' r ∧ xs.length = xs'.length + 1 ∧ Left s' { l with trains := l.trains ++ [trL a] } (n + 1) xs' r ∧ goM l n xs r = goM { l with trains := l.trains ++ [trL a] } (n + 1) xs' r := by
  have n0 : ¬ n = 0 := by omega
  have n1 : ¬ n = 1 := by omega
  cases xs with
  | nil =>
    have hr : r ≠ [] := by have := h.text; simp only [unl] at this; rw [← this]; exact hs
    refine Or.inl ⟨?_, by simp [goM, hr], rfl⟩
    rw [h.text]; exact numbers_none _ _ h.rest
  | cons x xs =>
    have e := numbers_line 2 x (unl xs r) (h.lines x (List.mem_cons_self ..))
    have hs2 : s = x ++ 10 :: unl xs r := h.text
    rw [hs2, e]
    cases ht : numsM 2 x with
    | none =>
      refine Or.inl ⟨rfl, ?_, by simp [trainOk, ht]⟩
      have : takeM l x n = none := by
        simp only [takeM, n0, n1, if_false, ht, Option.map_none]
        split
        · rfl
        · rcases hl with hl | hl
          · simp [hl]
          · cases h3 : numsM 3 x with
            | none => rfl
            | some a =>
              have hp := cutB_head x (likeB_head h3)
              have : legW <+: s := by rw [hs2]; exact hp.trans (List.prefix_append _ _)
              rw [List.isPrefixOf_iff_prefix.2 this] at hl
              cases hl
      simp [goM, this]
    | some a =>
      have hh : (cutB x).head? = some (wordsOf 2)[0]! := likeB_head ht
      refine Or.inr ⟨a, _, xs, rfl, by simp [trainOk, ht], rfl, h.tail, ?_⟩
      simp only [goM, takeM, n0, n1, if_false, hh, if_true, ht, Option.map_some]
theorem leg_step {s : Bs} {l : LnL} {ts : List TrL} {t : TrL} {n : Nat} {xs : List Bs} {r : Bs} (h : Left s l n xs r) (hn : 2 ≤ n) (ht : l.trains = ts ++ [t]) (hl : legW.isPrefixOf s = true) :
    (numbersB 3 s = none ∧ goM l n xs r = .inr (n + 1) ∧ legsOk xs r = false) ∨ ∃ a s' xs', numbersB 3 s = some (a, s') ∧ legsOk xs r = legsOk xs' r ∧ xs.length = xs'.length + 1 ∧ Left s' { l with trains := ts ++ [t.add (legL a)] } (n + 1) xs' r ∧ goM l n xs r = goM { l with trains := ts ++ [t.add (legL a)] } (n + 1) xs' r := by
  have n0 : ¬ n = 0 := by omega
  have n1 : ¬ n = 1 := by omega
  have hp := List.isPrefixOf_iff_prefix.1 hl
  have hlw : legW = [108, 101, 103] := rfl
  rw [hlw] at hp
  cases xs with
  | nil =>
    have hr : r ≠ [] := by
      have := h.text; simp only [unl] at this; rw [← this]
      rintro rfl
      simp at hp
    refine Or.inl ⟨?_, by simp [goM, hr], by have h2 := h.text; simp only [unl] at h2; simp only [legsOk]; rw [← h2, hl]; rfl⟩
    rw [h.text]; exact numbers_none _ _ h.rest
  | cons x xs =>
    have e := numbers_line 3 x (unl xs r) (h.lines x (List.mem_cons_self ..))
    have hs2 : s = x ++ 10 :: unl xs r := h.text
    have hl2 := hl
    rw [hs2, e]
    have hne : ¬ ((cutB x).head? = some (wordsOf 2)[0]!) := fun hh => by
      have h1 := (cutB_head x hh).trans (List.prefix_append x (10 :: unl xs r))
      rw [← hs2] at h1
      have hw2 : (wordsOf 2)[0]! = [116, 114, 97, 105, 110] := rfl
      rw [hw2] at h1
      obtain ⟨u, hu⟩ := h1
      obtain ⟨v, hv⟩ := hp
      rw [← hu] at hv
      simp at hv
    cases h3 : numsM 3 x with
    | none => exact Or.inl ⟨rfl, by simp only [goM, takeM, n0, n1, if_false, hne, h3, Option.bind_none], by simp only [legsOk]; rw [← hs2, hl, h3]; rfl⟩
    | some a =>
      refine Or.inr ⟨a, _, xs, rfl, by simp only [legsOk]; rw [← hs2, hl, h3]; simp, rfl, h.tail, ?_⟩
      have hn2 : ¬ (l.trains = []) := by rw [ht]; simp
      simp only [goM, takeM, n0, n1, if_false, hne, h3, Option.bind_some, hn2]
      rw [ht, addLeg_snoc]

/-- how many numbers, and how great -/
def numCount : List Tok → Nat
  | [] => 0
  | .word _ :: ts => numCount ts
  | .num :: ts => numCount ts + 1
theorem likeB_range (ts : List Tok) (c : List Bs) (a : List Int) (h : likeB ts c = some a) : a.length = numCount ts ∧ ∀ z ∈ a, 0 ≤ z ∧ z ≤ 9999999 := by
  induction ts generalizing c a with
  | nil =>
    cases c with
    | nil => simp only [likeB, Option.some.injEq] at h; subst h; simp [numCount]
    | cons x xs => simp [likeB] at h
  | cons t ts ih =>
    cases c with
    | nil => simp [likeB] at h
    | cons x xs =>
      simp only [likeB] at h
      cases h1 : tokOk t x with
      | none => simp [h1] at h
      | some p =>
        cases h2 : likeB ts xs with
        | none => simp [h1, h2] at h
        | some q =>
          simp only [h1, h2, Option.bind_some, Option.map_some, Option.some.injEq] at h
          subst h
          obtain ⟨i1, i2⟩ := ih xs q h2
          cases t with
          | word w =>
            rw [tokOk_word] at h1
            split at h1
            · simp only [Option.some.injEq] at h1; subst h1; exact ⟨i1, i2⟩
            · cases h1
          | num =>
            rw [tokOk_num] at h1
            split at h1
            · rename_i hk
              simp only [Option.some.injEq] at h1
              subst h1
              obtain ⟨_, k1, k2, _⟩ := num_ok hk
              refine ⟨by simp [numCount, i1], fun z hz => ?_⟩
              simp only [List.cons_append, List.nil_append, List.mem_cons] at hz
              rcases hz with rfl | hz
              · exact ⟨k1, k2⟩
              · exact i2 z hz
            · cases h1
end Go.Proofs.YtelickcfodcmaaaGreatDoor

namespace Go.Proofs.YtelickcfodcmaaaGreatDoor
open Go.RowKit

/-- in no block of the other -/
def Off (u v : Value) : Prop := ∀ k, u.ownBlock = some k → v.ownBlock ≠ some k
theorem Off.symm {u v : Value} (h : Off u v) : Off v u := fun k hk hu => h k hu hk
theorem Off.loc {u v v' : Value} {W : World} (h : Off u v) (hu : ∀ k, u.ownBlock = some k → k < W.heap.size) (hl : v'.ownBlock = v.ownBlock ∨ v'.ownBlock = some W.heap.size) : Off u v' := fun k hk => by
  rcases hl with e | e
  · rw [e]; exact h k hk
  · rw [e]; have := hu k hk; intro h2; cases h2; omega
theorem ownsRow_put {w : World} {base : Nat} {e : TypeId} {size g cap n : Nat} {xs : List Value} (h : w.ownsRow base e size (.slice (some ⟨g, 0, none⟩) n cap) n xs) (i : Nat) (u : Value) : (w.setCell ⟨g, i, none⟩ u).ownsRow base e size (.slice (some ⟨g, 0, none⟩) n cap) n (xs.set i u) := by
  obtain ⟨hl, hn | ⟨g', cap', cur, hv, hb, hg, h1, h2, h3, h4⟩⟩ := h
  · cases hn.1
  · cases hv
    have hlt := lt_of_block hg
    have h' : w.heap[g] = .cells cur e (0, 0) := by simpa [Array.getElem?_eq_getElem hlt] using hg
    refine ⟨by simpa using hl, Or.inr ⟨g, cap, cur.set! i u, rfl, hb, ?_, h1, h2, by simpa using h3, ?_⟩⟩
    · show (w.heap.modify g _)[g]? = _
      rw [Array.getElem?_eq_getElem (by simpa using hlt), Array.getElem_modify_self, h']
      rfl
    · rw [← h4]
      simp [List.take_set]

def legCells (L : List LegD) : List Value := L.flatMap fun g => [.int .i64 g.to, .int .i64 g.run, .int .i64 g.stay]
abbrev TrV := TrL × Value
def trCells (L : List TrV) : List Value := L.flatMap fun x => [.int .i64 x.1.frm, .int .i64 x.1.ready, .int .i64 x.1.due, .int .i64 x.1.weight, x.2]
def intCells (L : List Int) : List Value := L.map fun n => .int .i64 n
theorem intCells_snoc (L : List Int) (n : Int) : intCells (L ++ [n]) = intCells L ++ [.int .i64 n] := by simp [intCells]
theorem intCells_len (L : List Int) : (intCells L).length = L.length := by simp [intCells]
theorem legCells_snoc (L : List LegD) (g : LegD) : legCells (L ++ [g]) = legCells L ++ [.int .i64 g.to, .int .i64 g.run, .int .i64 g.stay] := by simp [legCells]
theorem trCells_snoc (L : List TrV) (x : TrV) : trCells (L ++ [x]) = trCells L ++ [.int .i64 x.1.frm, .int .i64 x.1.ready, .int .i64 x.1.due, .int .i64 x.1.weight, x.2] := by simp [trCells]
theorem trCells_len (L : List TrV) : (trCells L).length = L.length * 5 := by
  induction L with
  | nil => rfl
  | cons x L ih =>
    have : trCells (x :: L) = [.int .i64 x.1.frm, .int .i64 x.1.ready, .int .i64 x.1.due, .int .i64 x.1.weight, x.2] ++ trCells L := by simp [trCells]
    rw [this, List.length_append, ih]; simp; omega
theorem trCells_set (L : List TrV) (t : TrL) (v v' : Value) (g : LegD) : (trCells (L ++ [(t, v)])).set (L.length * 5 + 4) v' = trCells (L ++ [(t.add g, v')]) := by
  rw [trCells_snoc, trCells_snoc, List.set_append_right _ _ (by rw [trCells_len]; omega), trCells_len, show L.length * 5 + 4 - L.length * 5 = 4 by omega]
  rfl
theorem trCells_at (L : List TrV) (j : Nat) (x : TrV) (h : L[j]? = some x) : (trCells L)[j * 5]? = some (.int .i64 x.1.frm) ∧ (trCells L)[j * 5 + 1]? = some (.int .i64 x.1.ready) ∧ (trCells L)[j * 5 + 2]? = some (.int .i64 x.1.due) ∧ (trCells L)[j * 5 + 3]? = some (.int .i64 x.1.weight) ∧ (trCells L)[j * 5 + 4]? = some x.2 := by
  induction L generalizing j with
  | nil => simp at h
  | cons y L ih =>
    have hc : trCells (y :: L) = [.int .i64 y.1.frm, .int .i64 y.1.ready, .int .i64 y.1.due, .int .i64 y.1.weight, y.2] ++ trCells L := by simp [trCells]
    rw [hc]
    cases j with
    | zero => simp only [List.getElem?_cons_zero, Option.some.injEq] at h; subst h; exact ⟨rfl, rfl, rfl, rfl, rfl⟩
    | succ j =>
      rw [List.getElem?_cons_succ] at h
      have := ih j h
      have e : ∀ d, ([Value.int .i64 y.1.frm, .int .i64 y.1.ready, .int .i64 y.1.due, .int .i64 y.1.weight, y.2] ++ trCells L)[(j + 1) * 5 + d]? = (trCells L)[j * 5 + d]? := fun d => by
        rw [List.getElem?_append_right (by simp; omega)]
        congr 1; simp; omega
      exact ⟨(e 0).trans this.1, (e 1).trans this.2.1, (e 2).trans this.2.2.1, (e 3).trans this.2.2.2.1, (e 4).trans this.2.2.2.2⟩
theorem legCells_at (L : List LegD) (j : Nat) (x : LegD) (h : L[j]? = some x) : (legCells L)[j * 3]? = some (.int .i64 x.to) ∧ (legCells L)[j * 3 + 1]? = some (.int .i64 x.run) ∧ (legCells L)[j * 3 + 2]? = some (.int .i64 x.stay) := by
  induction L generalizing j with
  | nil => simp at h
  | cons y L ih =>
    have hc : legCells (y :: L) = [.int .i64 y.to, .int .i64 y.run, .int .i64 y.stay] ++ legCells L := by simp [legCells]
    rw [hc]
    cases j with
    | zero => simp only [List.getElem?_cons_zero, Option.some.injEq] at h; subst h; exact ⟨rfl, rfl, rfl⟩
    | succ j =>
      rw [List.getElem?_cons_succ] at h
      have := ih j h
      have e : ∀ d, ([Value.int .i64 y.to, .int .i64 y.run, .int .i64 y.stay] ++ legCells L)[(j + 1) * 3 + d]? = (legCells L)[j * 3 + d]? := fun d => by
        rw [List.getElem?_append_right (by simp; omega)]
        congr 1; simp; omega
      exact ⟨(e 0).trans this.1, (e 1).trans this.2.1, (e 2).trans this.2.2⟩

/-- the legs of a train, of the call's own -/
def OwnLegs (B0 : Nat) (W : World) (v : Value) (L : List LegD) : Prop := W.ownsRow B0 74 3 v L.length (legCells L)
structure OwnT (B0 : Nat) (W : World) (v : Value) (L : List TrV) : Prop where
  row : W.ownsRow B0 72 5 v L.length (trCells L)
  legs : ∀ x ∈ L, OwnLegs B0 W x.2 x.1.legs
  apart : L.Pairwise fun x y => Off x.2 y.2
  off : ∀ x ∈ L, Off x.2 v
section
variable {B0 : Nat} {W : World} {v : Value} {L : List TrV}
theorem OwnT.nil (B0 : Nat) (W : World) : OwnT B0 W (.slice none 0 0) [] := ⟨World.ownsRow_nil _ _ _ _, fun _ hx => absurd hx List.not_mem_nil, List.Pairwise.nil, fun _ hx => absurd hx List.not_mem_nil⟩
theorem OwnT.same (h : OwnT B0 W v L) {W' : World} (hs : ∀ k, (v.ownBlock = some k ∨ ∃ x ∈ L, x.2.ownBlock = some k) → W'.heap[k]? = W.heap[k]?) : OwnT B0 W' v L :=
  ⟨ownsRow_same h.row (fun k hk => hs k (Or.inl hk)), fun x hx => ownsRow_same (h.legs x hx) (fun k hk => hs k (Or.inr ⟨x, hx, hk⟩)), h.apart, h.off⟩
theorem OwnT.lt (h : OwnT B0 W v L) {k : Nat} (hk : v.ownBlock = some k ∨ ∃ x ∈ L, x.2.ownBlock = some k) : B0 ≤ k ∧ k < W.heap.size := by
  rcases hk with hk | ⟨x, hx, hk⟩
  · exact h.row.lt k hk
  · exact (h.legs x hx).lt k hk
theorem OwnT.later (h : OwnT B0 W v L) {W' : World} (hB : Below W.heap.size W W') : OwnT B0 W' v L := h.same (fun k hk => hB.block k (h.lt hk).2)
theorem OwnT.set (h : OwnT B0 W v L) {p : Addr} (hp : p.block < B0) (x : Value) : OwnT B0 (W.setCell p x) v L := h.same (fun k hk => Below.heap_setCell W p x k (by have := (h.lt hk).1; omega))
theorem OwnT.low (h : OwnT B0 W v L) {B1 : Nat} (hb : B1 ≤ B0) : OwnT B1 W v L := ⟨Joins.ownsRow_le h.row hb, fun x hx => Joins.ownsRow_le (h.legs x hx) hb, h.apart, h.off⟩
/-- one train more -/
theorem OwnT.snoc {W' : World} {v' : Value} {t : TrL} {lv : Value} (h : OwnT B0 W v L) (ho : W'.ownsRow B0 72 5 v' (L.length + 1) (trCells L ++ [.int .i64 t.frm, .int .i64 t.ready, .int .i64 t.due, .int .i64 t.weight, lv]))
    (hl : OwnLegs B0 W lv t.legs) (ha : ∀ x ∈ L, Off x.2 lv) (hf : Off lv v) (hg : W.grownBy W' v.ownBlock) (hloc : v'.ownBlock = v.ownBlock ∨ v'.ownBlock = some W.heap.size) : OwnT B0 W' v' (L ++ [(t, lv)]) := by
  have keep : ∀ u : Value, Off u v → (∀ k, u.ownBlock = some k → k < W.heap.size) → ∀ k, u.ownBlock = some k → W'.heap[k]? = W.heap[k]? := fun u hu hlt k hk => hg.block k (hlt k hk) (fun e => hu k hk e.symm)
  have hlt : ∀ k, lv.ownBlock = some k → k < W.heap.size := fun k hk => (World.ownsRow.lt hl k hk).2
  have hlx : ∀ x ∈ L, ∀ k, x.2.ownBlock = some k → k < W.heap.size := fun x hx k hk => ((h.legs x hx).lt k hk).2
  refine ⟨by rw [trCells_snoc, List.length_append]; exact ho, fun x hx => ?_, ?_, fun x hx => ?_⟩
  · rcases List.mem_append.1 hx with hx | hx
    · exact ownsRow_same (h.legs x hx) (keep _ (h.off x hx) (hlx x hx))
    · rw [List.mem_singleton] at hx; subst hx; exact ownsRow_same hl (keep _ hf hlt)
  · rw [List.pairwise_append]
    exact ⟨h.apart, List.pairwise_singleton _ _, fun x hx y hy => by rw [List.mem_singleton] at hy; subst hy; exact ha x hx⟩
  · rcases List.mem_append.1 hx with hx | hx
    · exact (h.off x hx).loc (hlx x hx) hloc
    · rw [List.mem_singleton] at hx; subst hx; exact hf.loc hlt hloc
/-- one leg more, of the last train, where it lies -/
theorem OwnT.leg {g cap : Nat} {t : TrL} {lv lv' : Value} {n : LegD} {W1 : World} (h : OwnT B0 W (.slice (some ⟨g, 0, none⟩) (L.length + 1) cap) (L ++ [(t, lv)]))
    (ho : W1.ownsRow B0 74 3 lv' (t.legs.length + 1) (legCells t.legs ++ [.int .i64 n.to, .int .i64 n.run, .int .i64 n.stay])) (hg : W.grownBy W1 lv.ownBlock) (hloc : lv'.ownBlock = lv.ownBlock ∨ lv'.ownBlock = some W.heap.size) :
    OwnT B0 (W1.setCell ⟨g, L.length * 5 + 4, none⟩ lv') (.slice (some ⟨g, 0, none⟩) (L.length + 1) cap) (L ++ [(t.add n, lv')]) := by
  have hrow := h.row
  rw [List.length_append] at hrow
  have hoff : Off lv (.slice (some ⟨g, 0, none⟩) (L.length + 1) cap) := h.off (t, lv) (by simp)
  have gl : g < W.heap.size := (hrow.lt g rfl).2
  have hgk : W1.heap[g]? = W.heap[g]? := hg.block g gl (fun e => hoff g e.symm rfl)
  have hrow1 := ownsRow_same (W' := W1) hrow (fun k hk => by simp only [Value.ownBlock, Option.some.injEq] at hk; subst hk; exact hgk)
  have hp := List.pairwise_append.1 h.apart
  have hxl : ∀ x ∈ L, Off x.2 lv := fun x hx => hp.2.2 x hx (t, lv) (by simp)
  have hoff' : Off lv' (.slice (some ⟨g, 0, none⟩) (L.length + 1) cap) := fun k hk e => by
    rcases hloc with e2 | e2
    · exact hoff k (e2.symm.trans hk) e
    · rw [e2] at hk; cases hk; simp only [Value.ownBlock, Option.some.injEq] at e; omega
  refine ⟨?_, fun x hx => ?_, ?_, fun x hx => ?_⟩
  · have := ownsRow_put hrow1 (L.length * 5 + 4) lv'
    rw [trCells_set L t lv lv' n] at this
    rw [List.length_append]
    exact this
  · rcases List.mem_append.1 hx with hx | hx
    · refine ownsRow_same (h.legs x (List.mem_append_left _ hx)) (fun k hk => ?_)
      have hk2 := ((h.legs x (List.mem_append_left _ hx)).lt k hk).2
      rw [Below.heap_setCell W1 _ _ k (fun e => h.off x (List.mem_append_left _ hx) k hk (by rw [e]; rfl))]
      exact hg.block k hk2 (fun e => hxl x hx k hk e.symm)
    · rw [List.mem_singleton] at hx; subst hx
      unfold OwnLegs TrL.add
      dsimp only
      rw [legCells_snoc, List.length_append]
      exact ownsRow_same ho (fun k hk => Below.heap_setCell W1 _ _ k (fun e => hoff' k hk (by rw [e]; rfl)))
  · rw [List.pairwise_append]
    refine ⟨hp.1, List.pairwise_singleton _ _, fun x hx y hy => ?_⟩
    rw [List.mem_singleton] at hy; subst hy
    exact (hxl x hx).loc (fun k hk => ((h.legs x (List.mem_append_left _ hx)).lt k hk).2) hloc
  · rcases List.mem_append.1 hx with hx | hx
    · exact h.off x (List.mem_append_left _ hx)
    · rw [List.mem_singleton] at hx; subst hx; exact hoff'
end
/-- as a line's data has them -/
def nilT : TrL := ⟨0, 0, 0, 0, []⟩
def trD (t : TrL) : TrainD := ⟨t.frm, t.ready, t.due, t.weight, t.legs.length, fun m => t.legs.getD m ⟨0, 0, 0⟩⟩
def fT (L : List TrL) (j : Nat) : TrainD := trD (L.getD j nilT)
def gI (L : List Int) (j : Nat) : Int := L.getD j 0
theorem OwnLegs.legs {B0 : Nat} {W : World} {v : Value} {L : List LegD} (h : OwnLegs B0 W v L) : ∃ a cap, v = .slice a L.length cap ∧ IsLegs B0 W.heap.size W a L.length (fun m => L.getD m ⟨0, 0, 0⟩) := by
  rcases h.2 with ⟨rfl, h0⟩ | ⟨g, cap, cur, rfl, hb, hg, _⟩
  · exact ⟨none, 0, by rw [h0], fun j hj => by omega⟩
  · refine ⟨_, cap, rfl, fun j hj => ?_⟩
    have hl : L[j]? = some (L.getD j ⟨0, 0, 0⟩) := by rw [List.getD_eq_getElem?_getD, List.getElem?_eq_getElem hj]; rfl
    obtain ⟨c0, c1, c2⟩ := legCells_at L j _ hl
    have hlt := World.ownsRow.lt h g rfl
    refine ⟨g, 0, rfl, hlt.1, hlt.2, ?_, ?_, ?_⟩
    · rw [Nat.zero_add, World.ownsRow.cellAt h _ (by omega)]; exact c0
    · rw [Nat.zero_add, World.ownsRow.cellAt h _ (by omega)]; exact c1
    · rw [Nat.zero_add, World.ownsRow.cellAt h _ (by omega)]; exact c2
theorem OwnT.trains {B0 : Nat} {W : World} {v : Value} {L : List TrV} (h : OwnT B0 W v L) (hn : ∀ x ∈ L, x.1.legs.length ≤ maxLen) : ∃ a cap, v = .slice a L.length cap ∧ IsTrains B0 W.heap.size W a L.length (fT (L.map Prod.fst)) := by
  rcases h.row.2 with ⟨rfl, h0⟩ | ⟨g, cap, cur, rfl, hb, hg, _⟩
  · exact ⟨none, 0, by rw [h0], fun j hj => by omega⟩
  · refine ⟨_, cap, rfl, fun j hj => ?_⟩
    have hl : L[j]? = some L[j] := List.getElem?_eq_getElem hj
    have hf : fT (L.map Prod.fst) j = trD L[j].1 := by unfold fT; rw [List.getD_eq_getElem?_getD, List.getElem?_map, hl]; rfl
    obtain ⟨c0, c1, c2, c3, c4⟩ := trCells_at L j _ hl
    have hlt := World.ownsRow.lt h.row g rfl
    have hm : L[j] ∈ L := List.getElem_mem hj
    obtain ⟨la, lc, e4, hlg⟩ := OwnLegs.legs (h.legs _ hm)
    rw [e4] at c4
    rw [hf]
    refine ⟨g, 0, la, lc, rfl, hlt.1, hlt.2, ?_, ?_, ?_, ?_, ?_, hlg, hn _ hm⟩
    · rw [Nat.zero_add, World.ownsRow.cellAt h.row _ (by omega)]; exact c0
    · rw [Nat.zero_add, World.ownsRow.cellAt h.row _ (by omega)]; exact c1
    · rw [Nat.zero_add, World.ownsRow.cellAt h.row _ (by omega)]; exact c2
    · rw [Nat.zero_add, World.ownsRow.cellAt h.row _ (by omega)]; exact c3
    · rw [Nat.zero_add, World.ownsRow.cellAt h.row _ (by omega)]; exact c4
theorem ownInts {B0 : Nat} {W : World} {v : Value} {L : List Int} (h : W.ownsRow B0 3 1 v L.length (intCells L)) : ∃ a cap, v = .slice a L.length cap ∧ IsInts B0 W.heap.size W a L.length (gI L) := by
  rcases h.2 with ⟨rfl, h0⟩ | ⟨g, cap, cur, rfl, hb, hg, _⟩
  · exact ⟨none, 0, by rw [h0], fun j hj => by omega⟩
  · refine ⟨_, cap, rfl, fun j hj => ⟨g, 0, rfl, (World.ownsRow.lt h g rfl).1, (World.ownsRow.lt h g rfl).2, ?_⟩⟩
    rw [Nat.zero_add, World.ownsRow.cellAt h _ (by omega)]
    unfold intCells gI
    rw [List.getElem?_map, List.getD_eq_getElem?_getD, List.getElem?_eq_getElem hj]
    rfl
end Go.Proofs.YtelickcfodcmaaaGreatDoor

namespace Go.Proofs.YtelickcfodcmaaaGreatDoor
open Go.RowKit

theorem Mid.grown {lo hi : Nat} {w W W' : World} {row : Option Nat} (h : Mid lo hi w W) (hg : W.grownBy W' row) (hr : ∀ k, row = some k → w.heap.size ≤ k) (hlo : lo ≤ w.heap.size) : Mid lo hi w W' := by
  have hs := h.below.size
  have hk : ∀ k, k < w.heap.size → W'.heap[k]? = W.heap[k]? := fun k hk => hg.block k (by omega) (fun e => by have := hr k e.symm; omega)
  refine ⟨below_grown h.below hg (by omega) (fun k e => by have := hr k e; omega), fun x h0 h1 => (hk x h1).trans (h.above x h0 h1), fun b o v hc hf => ?_⟩
  obtain ⟨v', h1, h2⟩ := h.keeps b o v hc hf
  have hb : W'.heap[b]? = W.heap[b]? := hk b (ltCell hc)
  exact ⟨v', (World.cell?_of_block (w := W) (w' := W') (a := ⟨b, o, none⟩) hb).trans h1, (World.frozen?_of_block (w := W) (w' := W') (a := ⟨b, o, none⟩) hb).trans h2⟩
theorem rowMid {W W' : World} {b B0 : Nat} {e : TypeId} {size : Nat} {v : Value} {n : Nat} {xs : List Value} (h : W.ownsRow B0 e size v n xs) (hM : Mid b (b + 1) W W') (hb : b < B0) : W'.ownsRow B0 e size v n xs :=
  ownsRow_same h (fun k hk => hM.above k (by have := (h.lt k hk).1; omega) (h.lt k hk).2)
theorem info3 {P : Program} {t : TypeId} {z : Value} {s b : Nat} (h : (P.info? t).map (fun i => (i.zero, i.size, i.bytes)) = some (some z, s, b)) : ∃ i, P.info? t = some i ∧ i.zero = some z ∧ i.size = s ∧ i.bytes = b := by
  cases hi : P.info? t with
  | none => rw [hi] at h; simp at h
  | some i => rw [hi] at h; simp at h; exact ⟨i, rfl, h.1, h.2.1, h.2.2⟩
theorem ints_at {W : World} {B0 g cap : Nat} {a : List Int} (h : W.ownsRow B0 3 1 (.slice (some ⟨g, 0, none⟩) a.length cap) a.length (intCells a)) {j : Nat} (hj : j < a.length) : W.cell? ⟨g, j, none⟩ = some (.int .i64 (a.getD j 0)) := by
  rw [World.ownsRow.cellAt h j (by omega)]
  unfold intCells
  rw [List.getElem?_map, List.getD_eq_getElem?_getD, List.getElem?_eq_getElem hj]
  rfl
theorem Mid.setNew {lo hi : Nat} {w W : World} (h : Mid lo hi w W) (p : Addr) (hp : w.heap.size ≤ p.block) (hlo : lo ≤ w.heap.size) (x : Value) : Mid lo hi w (W.setCell p x) :=
  ⟨h.below.setCell (by omega) x, fun y hy hy2 => (Below.heap_setCell W p x y (by omega)).trans (h.above y hy hy2), fun b o v hc hf => by
    obtain ⟨v', h1, h2⟩ := h.keeps b o v hc hf
    obtain ⟨v2, hv2⟩ := cell?_setCell_some (w := W) (p := p) (x := x) h1
    exact ⟨v2, hv2, by rw [World.frozen?_setCell]; exact h2⟩⟩
theorem Room.keep {B m lo hi : Nat} {W W' : World} (h : Room B m W) (hM : Mid lo hi W W') : Room B m W' := fun i hi => by
  obtain ⟨v, hv, hz⟩ := h i hi
  exact hM.keeps _ _ v hv hz
theorem Room.grown {B m : Nat} {W W' : World} {row : Option Nat} (h : Room B m W) (hg : W.grownBy W' row) (hr : ∀ k, row = some k → k ≠ B) : Room B m W' := fun i hi => by
  obtain ⟨v, hv, hz⟩ := h i hi
  have hb : W'.heap[B]? = W.heap[B]? := hg.block B (ltCell hv) (fun e => hr B e.symm rfl)
  exact ⟨v, (World.cell?_of_block (w := W) (w' := W') (a := ⟨B, i, none⟩) hb).trans hv, (World.frozen?_of_block (w := W) (w' := W') (a := ⟨B, i, none⟩) hb).trans hz⟩
/-- tracks and trains of the call's own, in blocks apart -/
structure LOwn (B0 : Nat) (W : World) (tr : List Int) (L : List TrV) (vt vT : Value) : Prop where
  ints : W.ownsRow B0 3 1 vt tr.length (intCells tr)
  trs : OwnT B0 W vT L
  off : Off vt vT
  offs : ∀ x ∈ L, Off vt x.2
section
variable {B0 : Nat} {W W' : World} {tr : List Int} {L : List TrV} {vt vT : Value}
theorem LOwn.same (h : LOwn B0 W tr L vt vT) (hs : ∀ k, B0 ≤ k → k < W.heap.size → W'.heap[k]? = W.heap[k]?) : LOwn B0 W' tr L vt vT :=
  ⟨ownsRow_same h.ints (fun k hk => hs k (h.ints.lt k hk).1 (h.ints.lt k hk).2), h.trs.same (fun k hk => hs k (h.trs.lt hk).1 (h.trs.lt hk).2), h.off, h.offs⟩
theorem LOwn.later (h : LOwn B0 W tr L vt vT) (hB : Below W.heap.size W W') : LOwn B0 W' tr L vt vT := h.same (fun k _ hk => hB.block k hk)
theorem LOwn.mid {b : Nat} (h : LOwn B0 W tr L vt vT) (hM : Mid b (b + 1) W W') (hb : b < B0) : LOwn B0 W' tr L vt vT := h.same (fun k h0 h1 => hM.above k (by omega) h1)
theorem LOwn.set (h : LOwn B0 W tr L vt vT) (p : Addr) (hp : p.block < B0) (x : Value) : LOwn B0 (W.setCell p x) tr L vt vT := h.same (fun k h0 _ => Below.heap_setCell W p x k (by omega))
theorem LOwn.low (h : LOwn B0 W tr L vt vT) {B1 : Nat} (hb : B1 ≤ B0) : LOwn B1 W tr L vt vT := ⟨Joins.ownsRow_le h.ints hb, h.trs.low hb, h.off, h.offs⟩
theorem LOwn.snoc {v' : Value} {t : TrL} {lv : Value} (h : LOwn B0 W tr L vt vT) (ho : W'.ownsRow B0 72 5 v' (L.length + 1) (trCells L ++ [.int .i64 t.frm, .int .i64 t.ready, .int .i64 t.due, .int .i64 t.weight, lv]))
    (hl : OwnLegs B0 W lv t.legs) (hn : ∀ k, lv.ownBlock = some k → vt.ownBlock ≠ some k ∧ vT.ownBlock ≠ some k ∧ ∀ x ∈ L, x.2.ownBlock ≠ some k) (hg : W.grownBy W' vT.ownBlock) (hloc : v'.ownBlock = vT.ownBlock ∨ v'.ownBlock = some W.heap.size) : LOwn B0 W' tr (L ++ [(t, lv)]) vt v' := by
  refine ⟨ownsRow_same h.ints (fun k hk => hg.block k (h.ints.lt k hk).2 (fun e => h.off k hk e.symm)), h.trs.snoc ho hl (fun x hx k hk e => (hn k e).2.2 x hx hk) (fun k hk => (hn k hk).2.1) hg hloc, h.off.loc (fun k hk => (h.ints.lt k hk).2) hloc, fun x hx => ?_⟩
  rcases List.mem_append.1 hx with hx | hx
  · exact h.offs x hx
  · rw [List.mem_singleton] at hx; subst hx; exact fun k hk e => (hn k e).1 hk
end
structure LBox (B0 bl : Nat) (W : World) (tr : List Int) (gap : Int) (L : List TrV) (vt vT : Value) : Prop where
  c0 : W.cell? ⟨bl, 0, none⟩ = some vt
  c1 : W.cell? ⟨bl, 1, none⟩ = some (.int .i64 gap)
  c2 : W.cell? ⟨bl, 2, none⟩ = some vT
  z0 : W.frozen? ⟨bl, 0, none⟩ = false
  z1 : W.frozen? ⟨bl, 1, none⟩ = false
  z2 : W.frozen? ⟨bl, 2, none⟩ = false
  lt : bl < B0
  own : LOwn B0 W tr L vt vT
section
variable {B0 bl : Nat} {W W' : World} {tr : List Int} {gap : Int} {L : List TrV} {vt vT : Value}
theorem LBox.same (h : LBox B0 bl W tr gap L vt vT) (hb : W'.heap[bl]? = W.heap[bl]?) (hs : ∀ k, B0 ≤ k → k < W.heap.size → W'.heap[k]? = W.heap[k]?) : LBox B0 bl W' tr gap L vt vT := by
  have cc : ∀ o u, W.cell? ⟨bl, o, none⟩ = some u → W'.cell? ⟨bl, o, none⟩ = some u := fun o u hu => (World.cell?_of_block (w := W) (w' := W') (a := ⟨bl, o, none⟩) hb).trans hu
  have zz : ∀ o, W.frozen? ⟨bl, o, none⟩ = false → W'.frozen? ⟨bl, o, none⟩ = false := fun o hu => (World.frozen?_of_block (w := W) (w' := W') (a := ⟨bl, o, none⟩) hb).trans hu
  exact ⟨cc 0 _ h.c0, cc 1 _ h.c1, cc 2 _ h.c2, zz 0 h.z0, zz 1 h.z1, zz 2 h.z2, h.lt, h.own.same hs⟩
theorem LBox.later (h : LBox B0 bl W tr gap L vt vT) (hB : Below W.heap.size W W') : LBox B0 bl W' tr gap L vt vT := h.same (hB.block _ (ltCell h.c0)) (fun k _ hk => hB.block k hk)
theorem LBox.mid {b : Nat} (h : LBox B0 bl W tr gap L vt vT) (hM : Mid b (b + 1) W W') (hb : b < bl) : LBox B0 bl W' tr gap L vt vT :=
  h.same (hM.above _ hb (ltCell h.c0)) (fun k h0 h1 => hM.above k (by have := h.lt; omega) h1)
/-- the tracks, laid into the box -/
theorem LBox.tracks {tr' : List Int} {vt' : Value} (h : LBox B0 bl W tr gap [] vt (.slice none 0 0)) (ho : W.ownsRow B0 3 1 vt' tr'.length (intCells tr')) : LBox B0 bl (W.setCell ⟨bl, 0, none⟩ vt') tr' gap [] vt' (.slice none 0 0) := by
  have hl := h.lt
  refine ⟨World.cell?_setCell_same _ _ _ h.c0, (cell_set_ne (by omega)).trans h.c1, (cell_set_ne (by omega)).trans h.c2, (World.frozen?_setCell ..).trans h.z0, (World.frozen?_setCell ..).trans h.z1, (World.frozen?_setCell ..).trans h.z2, hl, ⟨ownsRow_setCell_below ho hl _, OwnT.nil _ _, fun k _ e => by simp [Value.ownBlock] at e, fun x hx => absurd hx List.not_mem_nil⟩⟩
theorem LBox.gap_ (h : LBox B0 bl W tr gap L vt vT) (gap' : Int) : LBox B0 bl (W.setCell ⟨bl, 1, none⟩ (.int .i64 gap')) tr gap' L vt vT := by
  have hl := h.lt
  exact ⟨(cell_set_ne (by omega)).trans h.c0, World.cell?_setCell_same _ _ _ h.c1, (cell_set_ne (by omega)).trans h.c2, (World.frozen?_setCell ..).trans h.z0, (World.frozen?_setCell ..).trans h.z1, (World.frozen?_setCell ..).trans h.z2, hl, h.own.set _ hl _⟩
/-- one train more, laid into the box -/
theorem LBox.snoc {v' : Value} {t : TrL} {lv : Value} (h : LBox B0 bl W tr gap L vt vT) (ho : W'.ownsRow B0 72 5 v' (L.length + 1) (trCells L ++ [.int .i64 t.frm, .int .i64 t.ready, .int .i64 t.due, .int .i64 t.weight, lv]))
    (hl : OwnLegs B0 W lv t.legs) (hn : ∀ k, lv.ownBlock = some k → vt.ownBlock ≠ some k ∧ vT.ownBlock ≠ some k ∧ ∀ x ∈ L, x.2.ownBlock ≠ some k) (hg : W.grownBy W' vT.ownBlock) (hloc : v'.ownBlock = vT.ownBlock ∨ v'.ownBlock = some W.heap.size) : LBox B0 bl (W'.setCell ⟨bl, 2, none⟩ v') tr gap (L ++ [(t, lv)]) vt v' := by
  have hlt := h.lt
  have hlb := ltCell h.c0
  dsimp only at hlb
  have hb : W'.heap[bl]? = W.heap[bl]? := hg.block bl hlb (fun e => by have := (h.own.trs.lt (Or.inl e.symm)).1; omega)
  have cc : ∀ o u, W.cell? ⟨bl, o, none⟩ = some u → W'.cell? ⟨bl, o, none⟩ = some u := fun o u hu => (World.cell?_of_block (w := W) (w' := W') (a := ⟨bl, o, none⟩) hb).trans hu
  have zz : ∀ o, W.frozen? ⟨bl, o, none⟩ = false → W'.frozen? ⟨bl, o, none⟩ = false := fun o hu => (World.frozen?_of_block (w := W) (w' := W') (a := ⟨bl, o, none⟩) hb).trans hu
  exact ⟨(cell_set_ne (by omega)).trans (cc 0 _ h.c0), (cell_set_ne (by omega)).trans (cc 1 _ h.c1), World.cell?_setCell_same _ _ _ (cc 2 _ h.c2), (World.frozen?_setCell ..).trans (zz 0 h.z0), (World.frozen?_setCell ..).trans (zz 1 h.z1), (World.frozen?_setCell ..).trans (zz 2 h.z2), hlt, (h.own.snoc ho hl hn hg hloc).set _ hlt _⟩
end
theorem TrV_one {t : TrL} {la : Option Addr} {n c : Nat} : ∀ u ∈ [Value.int .i64 t.frm, .int .i64 t.ready, .int .i64 t.due, .int .i64 t.weight, .slice la n c], u.oneCell' = true := by
  intro u hu
  simp only [List.mem_cons, List.not_mem_nil, or_false] at hu
  rcases hu with rfl | rfl | rfl | rfl | rfl <;> rfl
/-- a train's box at block bt, its legs of the call's own -/
structure TBox (B0 bt : Nat) (W : World) (t : TrL) (lv : Value) : Prop where
  c0 : W.cell? ⟨bt, 0, none⟩ = some (.int .i64 t.frm)
  c1 : W.cell? ⟨bt, 1, none⟩ = some (.int .i64 t.ready)
  c2 : W.cell? ⟨bt, 2, none⟩ = some (.int .i64 t.due)
  c3 : W.cell? ⟨bt, 3, none⟩ = some (.int .i64 t.weight)
  c4 : W.cell? ⟨bt, 4, none⟩ = some lv
  z4 : W.frozen? ⟨bt, 4, none⟩ = false
  legs : OwnLegs B0 W lv t.legs
  off : lv.ownBlock ≠ some bt
section
variable {B0 bt : Nat} {W W' : World} {t : TrL} {lv : Value}
theorem TBox.same (h : TBox B0 bt W t lv) (hb : W'.heap[bt]? = W.heap[bt]?) (hl : ∀ k, lv.ownBlock = some k → W'.heap[k]? = W.heap[k]?) : TBox B0 bt W' t lv := by
  have cc : ∀ o u, W.cell? ⟨bt, o, none⟩ = some u → W'.cell? ⟨bt, o, none⟩ = some u := fun o u hu => (World.cell?_of_block (w := W) (w' := W') (a := ⟨bt, o, none⟩) hb).trans hu
  exact ⟨cc 0 _ h.c0, cc 1 _ h.c1, cc 2 _ h.c2, cc 3 _ h.c3, cc 4 _ h.c4, (World.frozen?_of_block (w := W) (w' := W') (a := ⟨bt, 4, none⟩) hb).trans h.z4, ownsRow_same h.legs hl, h.off⟩
theorem TBox.later (h : TBox B0 bt W t lv) (hB : Below W.heap.size W W') : TBox B0 bt W' t lv :=
  h.same (hB.block _ (ltCell h.c0)) (fun k hk => hB.block k (World.ownsRow.lt h.legs k hk).2)
theorem TBox.mid {b : Nat} (h : TBox B0 bt W t lv) (hM : Mid b (b + 1) W W') (h0 : b < B0) (h1 : b < bt) : TBox B0 bt W' t lv :=
  h.same (hM.above _ h1 (ltCell h.c0)) (fun k hk => hM.above k (by have := (World.ownsRow.lt h.legs k hk).1; omega) (World.ownsRow.lt h.legs k hk).2)
/-- one leg more -/
theorem TBox.add {g : LegD} {lv' : Value} (h : TBox B0 bt W t lv) (ho : W'.ownsRow B0 74 3 lv' (t.legs.length + 1) (legCells t.legs ++ [.int .i64 g.to, .int .i64 g.run, .int .i64 g.stay])) (hg : W.grownBy W' lv.ownBlock) (hloc : lv'.ownBlock = lv.ownBlock ∨ lv'.ownBlock = some W.heap.size) :
    TBox B0 bt (W'.setCell ⟨bt, 4, none⟩ lv') (t.add g) lv' := by
  have hlt := ltCell h.c0
  dsimp only at hlt
  have hb : W'.heap[bt]? = W.heap[bt]? := hg.block bt hlt (fun e => h.off e.symm)
  have cc : ∀ o u, W.cell? ⟨bt, o, none⟩ = some u → W'.cell? ⟨bt, o, none⟩ = some u := fun o u hu => (World.cell?_of_block (w := W) (w' := W') (a := ⟨bt, o, none⟩) hb).trans hu
  have hoff : lv'.ownBlock ≠ some bt := fun e => by
    rcases hloc with e2 | e2
    · exact h.off (e2.symm.trans e)
    · rw [e2] at e; cases e; omega
  refine ⟨(cell_set_ne (by omega)).trans (cc 0 _ h.c0), (cell_set_ne (by omega)).trans (cc 1 _ h.c1), (cell_set_ne (by omega)).trans (cc 2 _ h.c2), (cell_set_ne (by omega)).trans (cc 3 _ h.c3), World.cell?_setCell_same _ _ _ (cc 4 _ h.c4), ?_, ?_, hoff⟩
  · rw [World.frozen?_setCell]; exact (World.frozen?_of_block (w := W) (w' := W') (a := ⟨bt, 4, none⟩) hb).trans h.z4
  · unfold OwnLegs TrL.add
    dsimp only
    rw [legCells_snoc, List.length_append]
    exact ownsRow_same ho (fun k hk => Below.heap_setCell W' _ _ k (fun e => hoff (by rw [hk, e])))
end
end Go.Proofs.YtelickcfodcmaaaGreatDoor

namespace Go.Proofs.YtelickcfodcmaaaGreatDoor
open Go.RowKit

theorem le_sum {L : List Nat} {x : Nat} (h : x ∈ L) : x ≤ L.sum := by
  induction L with
  | nil => cases h
  | cons y L ih =>
    rw [List.sum_cons]
    rcases List.mem_cons.1 h with rfl | h
    · omega
    · have := ih h; omega
/-- legs, each to the next station, within the line -/
inductive Walk (n : Int) (frm : Int) : List LegD → Int → Prop
  | nil : Walk n frm [] frm
  | snoc {L : List LegD} {at_ : Int} {g : LegD} (h : Walk n frm L at_) (h1 : g.to = at_ + 1 ∨ g.to = at_ - 1) (h2 : 0 ≤ g.to) (h3 : g.to < n) (h4 : 1 ≤ g.run) (h5 : g.run ≤ 30) (h6 : 0 ≤ g.stay) (h7 : g.stay ≤ 5) : Walk n frm (L ++ [g]) g.to
/-- a drawn train -/
structure DrawnT (n : Nat) (t : TrL) : Prop where
  frm : 0 ≤ t.frm ∧ t.frm < n
  ready : 0 ≤ t.ready ∧ t.ready ≤ 40
  due : 0 ≤ t.due ∧ t.due ≤ 1000
  weight : 1 ≤ t.weight ∧ t.weight ≤ 4
  some_ : 0 < t.legs.length
  walk : ∃ at_, Walk n t.frm t.legs at_
structure DrawnL (l : LnL) : Prop where
  tr : 2 ≤ l.tracks.length ∧ l.tracks.length ≤ 5
  nums : ∀ z ∈ l.tracks, 1 ≤ z ∧ z ≤ 3
  gap : 0 ≤ l.gap ∧ l.gap ≤ 4
  trs : l.trains.length ≤ 5
  legs : (l.trains.map fun t => t.legs.length).sum ≤ 10
  each : ∀ t ∈ l.trains, DrawnT l.tracks.length t

def prevTo (frm : Int) (L : List LegD) (j : Nat) : Int := match j with
  | 0 => frm
  | j + 1 => (L.getD j ⟨0, 0, 0⟩).to
theorem Walk.legs {n frm : Int} {L : List LegD} {at_ : Int} (h : Walk n frm L at_) : at_ = prevTo frm L L.length ∧ ∀ j, j < L.length → 0 ≤ (L.getD j ⟨0, 0, 0⟩).to ∧ (L.getD j ⟨0, 0, 0⟩).to < n ∧ ((L.getD j ⟨0, 0, 0⟩).to = prevTo frm L j + 1 ∨ (L.getD j ⟨0, 0, 0⟩).to = prevTo frm L j - 1) ∧ 1 ≤ (L.getD j ⟨0, 0, 0⟩).run ∧ (L.getD j ⟨0, 0, 0⟩).run ≤ 30 ∧ 0 ≤ (L.getD j ⟨0, 0, 0⟩).stay ∧ (L.getD j ⟨0, 0, 0⟩).stay ≤ 5 := by
  induction h with
  | nil => exact ⟨rfl, fun j hj => by simp at hj⟩
  | @snoc L at_ g h h1 h2 h3 h4 h5 h6 h7 ih =>
    have hlast : (L ++ [g]).getD L.length ⟨0, 0, 0⟩ = g := by simp [List.getD_eq_getElem?_getD]
    have hold : ∀ j, j < L.length → (L ++ [g]).getD j ⟨0, 0, 0⟩ = L.getD j ⟨0, 0, 0⟩ := fun j hj => by simp [List.getD_eq_getElem?_getD, List.getElem?_append_left hj]
    have hprev : ∀ j, j ≤ L.length → prevTo frm (L ++ [g]) j = prevTo frm L j := fun j hj => by
      cases j with
      | zero => rfl
      | succ j => simp only [prevTo]; rw [hold j (by omega)]
    refine ⟨?_, fun j hj => ?_⟩
    · rw [List.length_append]; show g.to = ((L ++ [g]).getD L.length ⟨0, 0, 0⟩).to; rw [hlast]
    · rw [List.length_append] at hj
      simp only [List.length_cons, List.length_nil] at hj
      by_cases e : j = L.length
      · subst e
        rw [hlast, hprev _ (Nat.le_refl _), ← ih.1]
        exact ⟨h2, h3, h1, h4, h5, h6, h7⟩
      · rw [hold j (by omega), hprev j (by omega)]
        exact ih.2 j (by omega)
theorem cur_prev (t : TrL) (j : Nat) : cur (trD t) j = prevTo t.frm t.legs j := by
  cases j with
  | zero => rfl
  | succ j => rfl
theorem DrawnT.right {n : Nat} {t : TrL} (h : DrawnT n t) : trainB n (trD t) = true := by
  obtain ⟨at_, hw⟩ := h.walk
  have hl := hw.legs.2
  have h1 := h.frm
  have h2 := h.ready
  have h3 := h.due
  have h4 := h.weight
  have h5 := h.some_
  have hlegs : legsB n (trD t) = true := by
    unfold legsB
    rw [decide_eq_true_eq]
    intro j hj
    obtain ⟨a1, a2, a3, a4, a5, a6, a7⟩ := hl j hj
    rw [cur_prev, show (trD t).leg j = t.legs.getD j ⟨0, 0, 0⟩ from rfl]
    unfold legB nextTo inB
    show (decide _ && decide _ && decide _ && decide _) = true
    simp only [Bool.and_eq_true, decide_eq_true_eq]
    exact ⟨⟨⟨⟨a1, by omega⟩, a3⟩, a4, by omega⟩, a6, by omega⟩
  unfold trainB inB
  rw [hlegs]
  show (decide (0 ≤ t.frm ∧ t.frm ≤ (n : Int) - 1) && decide (0 ≤ t.ready ∧ t.ready ≤ 100000) && decide (0 ≤ t.due ∧ t.due ≤ 100000) && decide (1 ≤ t.weight ∧ t.weight ≤ 100) && decide (0 < t.legs.length) && true) = true
  simp only [Bool.and_eq_true, decide_eq_true_eq, and_true]
  omega
theorem legSum_take (ts : List TrL) : ∀ k, k ≤ ts.length → legSum (fT ts) k = ((ts.take k).map fun t => t.legs.length).sum
  | 0, _ => rfl
  | k + 1, hk => by
    rw [legSum, legSum_take ts k (by omega), List.take_succ_eq_append_getElem (by omega), List.map_append, List.sum_append]
    congr 1
    unfold fT
    rw [List.getD_eq_getElem?_getD, List.getElem?_eq_getElem (by omega)]
    simp [trD]
theorem DrawnL.right {l : LnL} (h : DrawnL l) : faultOf l.tracks.length (gI l.tracks) l.gap l.trains.length (fT l.trains) = (0, 0) := by
  have h1 := h.tr
  have h2 := h.gap
  have h3 := h.trs
  refine faultOf_zero ⟨?_, ?_, h3, ?_⟩ (fun j hj => ?_) (fun j hj => ?_)
  · unfold inB; rw [decide_eq_true_eq]; omega
  · unfold inB; rw [decide_eq_true_eq]; omega
  · rw [legSum_take _ _ (Nat.le_refl _), List.take_length]; exact h.legs
  · have := h.nums (gI l.tracks j) (by unfold gI; rw [List.getD_eq_getElem?_getD, List.getElem?_eq_getElem hj]; exact List.getElem_mem hj)
    unfold inB; rw [decide_eq_true_eq]; omega
  · have hf : fT l.trains j = trD l.trains[j] := by unfold fT; rw [List.getD_eq_getElem?_getD, List.getElem?_eq_getElem hj]; rfl
    rw [hf]
    exact (h.each _ (List.getElem_mem hj)).right
end Go.Proofs.YtelickcfodcmaaaGreatDoor

namespace Go.Proofs.YtelickcfodcmaaaGreatDoor
open Go.RowKit

/-- the first region of a code -/
def firstRegC : Code → Option Nat
  | .region i _ _ => some i
  | .seq a b => match firstRegC a with
    | some i => some i
    | none => firstRegC b
  | .block _ c => firstRegC c
  | .scope c => firstRegC c
  | .loop c => firstRegC c
  | _ => none
/-- the body of the loop that begins with a region -/
def loopAtC (id : Nat) : Code → Option Code
  | .loop c => match firstRegC c with
    | some i => if i = id then some c else loopAtC id c
    | none => loopAtC id c
  | .seq a b => match loopAtC id a with
    | some c => some c
    | none => loopAtC id b
  | .block _ c => loopAtC id c
  | .scope c => loopAtC id c
  | .cond _ a b => match loopAtC id a with
    | some c => some c
    | none => loopAtC id b
  | _ => none
noncomputable def lineL : Code := ((Tryz.f19.body.bind (loopAtC 14)).getD .skip)

theorem Cur.grown {w0 W W' : World} {b k : Nat} {row : Option Nat} (h : Cur w0 b k W) (hg : W.grownBy W' row) (hr : ∀ j, row = some j → b < j) : Cur w0 b k W' :=
  h.same (below_grown h.base hg (by have := h.base.size; omega) (fun j hj => by have := hr j hj; have := h.lo; omega)) (hg.block b h.lt (fun e => by have := hr b e.symm; omega))
theorem Cur.set {w0 W : World} {b k : Nat} (h : Cur w0 b k W) (p : Addr) (hp : b < p.block) (x : Value) : Cur w0 b k (W.setCell p x) :=
  h.same (h.base.setCell (by have := h.lo; omega) x) (Below.heap_setCell W p x b (by omega))
theorem TBox.grown4 {B0 bt : Nat} {W W' : World} {t : TrL} {lv : Value} (h : TBox B0 bt W t lv) (hg : W.grownBy W' lv.ownBlock) : W'.cell? ⟨bt, 4, none⟩ = some lv ∧ W'.frozen? ⟨bt, 4, none⟩ = false := by
  have hbk : W'.heap[bt]? = W.heap[bt]? := hg.block bt (ltCell h.c0) (fun e => h.off e.symm)
  exact ⟨(World.cell?_of_block (w := W) (w' := W') (a := ⟨bt, 4, none⟩) hbk).trans h.c4, (World.frozen?_of_block (w := W) (w' := W') (a := ⟨bt, 4, none⟩) hbk).trans h.z4⟩
theorem TBox.due {B0 bt : Nat} {W : World} {t : TrL} {lv : Value} (h : TBox B0 bt W t lv) (d : Int) : TBox B0 bt (W.setCell ⟨bt, 2, none⟩ (.int .i64 d)) { t with due := d } lv :=
  ⟨(cell_set_ne (by omega)).trans h.c0, (cell_set_ne (by omega)).trans h.c1, World.cell?_setCell_same _ _ _ h.c2, (cell_set_ne (by omega)).trans h.c3, (cell_set_ne (by omega)).trans h.c4, (World.frozen?_setCell ..).trans h.z4, ownsRow_same h.legs (fun k hk => Below.heap_setCell W _ _ k (fun e => h.off (by rw [hk, e]))), h.off⟩
theorem LBox.grown2 {B0 bl : Nat} {W W' : World} {tr : List Int} {gap : Int} {L : List TrV} {vt vT : Value} (h : LBox B0 bl W tr gap L vt vT) (hg : W.grownBy W' vT.ownBlock) : W'.cell? ⟨bl, 2, none⟩ = some vT ∧ W'.frozen? ⟨bl, 2, none⟩ = false := by
  have hlt := h.lt
  have hbk : W'.heap[bl]? = W.heap[bl]? := hg.block bl (ltCell h.c0) (fun e => by have := (h.own.trs.lt (Or.inl e.symm)).1; omega)
  exact ⟨(World.cell?_of_block (w := W) (w' := W') (a := ⟨bl, 2, none⟩) hbk).trans h.c2, (World.frozen?_of_block (w := W) (w' := W') (a := ⟨bl, 2, none⟩) hbk).trans h.z2⟩
theorem legs_lie (W : World) (x y z : Int) (o : Obj) : ∀ (j : Nat) (u : Value), [Value.int .i64 x, .int .i64 y, .int .i64 z][j]? = some u → ((W.alloc o).alloc (.cells #[.int .i64 x, .int .i64 y, .int .i64 z] 74)).cell? ((⟨W.heap.size + 1, 0, none⟩ : Addr).add j) = some u := fun j u hj => by
  have h := cells3_lie (W := W.alloc o) (x := .int .i64 x) (y := .int .i64 y) (z := .int .i64 z) (t := 74) j u hj
  rw [World.size_alloc] at h
  exact h
/-- a train in the making -/
structure LegsI (w0 : World) (b bt N kC g k0 : Nat) (y1 y2 y3 : Int) (v3 : World) (g' kk k3 : Nat) (up at' sum : Int) (t : TrL) (lv : Value) (W : World) : Prop where
  tb : TBox (bt + 1) bt W t lv
  same : t.frm = y1 ∧ t.ready = y2 ∧ t.weight = 1 + y3
  gl : t.legs.length + g' = g
  kl : t.legs.length + k3 = k0
  walk : Walk N y1 t.legs at'
  at_ : 0 ≤ at' ∧ at' < N
  up : up = 0 ∨ up = 1
  sum : 0 ≤ sum ∧ sum ≤ 40 + 40 * (t.legs.length : Int)
  cur : Cur w0 b kk W
  kk : kk ≤ kC + 10 + 4 * t.legs.length
  mid : Mid b (b + 1) v3 W
  room : Room bt 5 W
theorem LegsI.step {w0 : World} {b bt N kC g k0 : Nat} {y1 y2 y3 : Int} {v3 : World} {g' kk k3 : Nat} {up at' sum : Int} {t : TrL} {lv : Value} {W v6 v7 W1 : World} {up' to y6 y7 : Int} {v' : Value} {o o' : Obj}
    (hI : LegsI w0 b bt N kC g k0 y1 y2 y3 v3 g' kk k3 up at' sum t lv W) (hv3 : bt = v3.heap.size) (hbt : b < bt) (hE6 : Mid b (b + 1) W v6) (hE7 : Mid b (b + 1) v6 v7) (hD7 : Cur w0 b (kk + 2 + 2) v7)
    (hg' : 0 < g') (hk3 : 0 < k3) (hup : up' = 0 ∨ up' = 1) (hto : to = at' + 1 ∨ to = at' - 1) (ht0 : 0 ≤ to) (ht1 : to < N) (hy6 : 0 ≤ y6) (hy61 : y6 < 30 ∨ y6 = 0) (hy7 : 0 ≤ y7) (hy71 : y7 < 6 ∨ y7 = 0)
    (ho : W1.ownsRow (bt + 1) 74 3 v' (t.legs.length + 1) (legCells t.legs ++ [.int .i64 to, .int .i64 (1 + y6), .int .i64 y7])) (hgr : ((v7.alloc o).alloc o').grownBy W1 lv.ownBlock) (hloc : v'.ownBlock = lv.ownBlock ∨ v'.ownBlock = some (v7.heap.size + 1 + 1)) :
    LegsI w0 b bt N kC g k0 y1 y2 y3 v3 (g' - 1) (kk + 2 + 2) (k3 - 1) up' to (sum + (1 + y6 + y7)) (t.add ⟨to, 1 + y6, y7⟩) v' (W1.setCell ⟨bt, 4, none⟩ v') := by
  have hTB7 := (hI.tb.mid hE6 (by omega) hbt).mid hE7 (by omega) hbt
  have hTBA := (hTB7.later (b1 v7 o)).later (b1 (v7.alloc o) o')
  have hrow : ∀ k, lv.ownBlock = some k → bt + 1 ≤ k := fun k hk => (World.ownsRow.lt hTBA.legs k hk).1
  have hgl := hI.gl
  have hkl := hI.kl
  have hkk := hI.kk
  have hsm := hI.sum
  have hlen : (t.add ⟨to, 1 + y6, y7⟩).legs.length = t.legs.length + 1 := by unfold TrL.add; simp
  have hMA : Mid b (b + 1) v3 ((v7.alloc o).alloc o') := ((((hI.mid.trans hE6).trans hE7).trans (Mid.ofBelow (b1 v7 o) (by have := hD7.lt; omega))).trans (Mid.ofBelow (b1 (v7.alloc o) o') (by have := hD7.lt; rw [World.size_alloc]; omega)))
  exact ⟨hTBA.add (g := ⟨to, 1 + y6, y7⟩) ho hgr (by simpa [World.size_alloc] using hloc), hI.same, by rw [hlen]; omega, by rw [hlen]; omega, Walk.snoc (g := ⟨to, 1 + y6, y7⟩) hI.walk hto ht0 ht1 (by dsimp only; omega) (by dsimp only; omega) (by dsimp only; omega) (by dsimp only; omega), ⟨ht0, ht1⟩, hup, by rw [hlen]; omega,
    (((hD7.later (b1 v7 o)).later (b1 (v7.alloc o) o')).grown hgr (fun j hj => by have := hrow j hj; omega)).set _ hbt _, by rw [hlen]; omega, (hMA.grown hgr (fun j hj => by have := hrow j hj; omega) (by omega)).setNew _ (by show v3.heap.size ≤ bt; omega) (by omega) _,
    (((((hI.room.keep hE6).keep hE7).keep (Mid.ofBelow (lo := 0) (hi := 0) (b1 v7 o) (Nat.zero_le _))).keep (Mid.ofBelow (lo := 0) (hi := 0) (b1 (v7.alloc o) o') (Nat.zero_le _))).grown hgr (fun j hj e => by have := hrow j hj; omega)).set _ _⟩
set_option maxRecDepth 20000 in
set_option maxHeartbeats 8000000 in
theorem line_legs {s1 s2 s3 s4 s5 s6 s14 s15 s16 s17 s18 s19 s20 s21 s22 s23 s24 s25 s26 s27 s28 s29 s30 s31 s32 s33 s34 s35 s36 s37 s38 s39 s40 s41 s42 s43 s44 s45 s46 s47 s48 s49 s50 s51 s52 s53 s54 s55 s56 s57 s58 s59 s60 s61 s62 s63 s64 s65 s66 s67 s68 s69 s70 s71 s72 s73 s74 s75 s76 s77 s78 s79 s80 s81 s82 s83 s84 s85 s86 s87 s88 s89 s90 s91 s92 s93 s94 s95 s96 s97 s98 s99 s100 s101 s102 s103 s104 s105 s106 s107 s108 s109 s110 s111 s112 s113 s114 s115 s116 s117 s118 s119 s120 s121 s122 s123 s124 s125 s126 s127 s128 s129 : Value} (w0 : World) (b bt N kC g k0 : Nat) (y1 y2 y3 y4 : Int) (v3 v5 : World) (K : Act → World → Prop) (Q : Exit → Act → World → Prop)
    (hK : ∀ (u14 u70 u71 u72 u73 u74 u75 u76 u77 u78 u79 u80 u81 u82 u83 u84 u85 u86 u87 u88 u89 u90 u91 u92 u93 u94 u95 u96 u97 u98 u99 u100 u101 u102 u103 u104 u105 u106 u107 u108 u109 u110 c8 c10 c11 c12 c13 : Value) (g' kk k3 : Nat) (up at' sum : Int) (t : TrL) (lv : Value) (W : World), LegsI w0 b bt N kC g k0 y1 y2 y3 v3 g' kk k3 up at' sum t lv W → 0 < t.legs.length → c8 = .int .i64 g' → c12 = .int .i64 sum → K ⟨(.pointer (some ⟨b, 0, none⟩) :: s1 :: s2 :: s3 :: s4 :: s5 :: s6 :: .int .i64 N :: c8 :: .pointer (some ⟨bt, 0, none⟩) :: c10 :: c11 :: c12 :: c13 :: u14 :: s15 :: s16 :: s17 :: s18 :: s19 :: s20 :: s21 :: s22 :: s23 :: s24 :: s25 :: s26 :: s27 :: s28 :: s29 :: s30 :: s31 :: s32 :: s33 :: s34 :: s35 :: s36 :: s37 :: s38 :: s39 :: s40 :: s41 :: s42 :: s43 :: s44 :: s45 :: s46 :: s47 :: s48 :: s49 :: s50 :: s51 :: s52 :: s53 :: s54 :: s55 :: s56 :: s57 :: s58 :: s59 :: s60 :: s61 :: s62 :: s63 :: s64 :: s65 :: s66 :: s67 :: s68 :: s69 :: u70 :: u71 :: u72 :: u73 :: u74 :: u75 :: u76 :: u77 :: u78 :: u79 :: u80 :: u81 :: u82 :: u83 :: u84 :: u85 :: u86 :: u87 :: u88 :: u89 :: u90 :: u91 :: u92 :: u93 :: u94 :: u95 :: u96 :: u97 :: u98 :: u99 :: u100 :: u101 :: u102 :: u103 :: u104 :: u105 :: u106 :: u107 :: u108 :: u109 :: u110 :: s111 :: s112 :: s113 :: s114 :: s115 :: s116 :: s117 :: s118 :: s119 :: s120 :: s121 :: s122 :: s123 :: s124 :: s125 :: s126 :: s127 :: s128 :: s129 :: []).toArray, []⟩ W)
    (hkC : kC ≤ 5000) (hN : 2 ≤ N ∧ N ≤ 5) (hg : 0 < g ∧ g ≤ 9) (hk0 : 1 ≤ k0 ∧ k0 ≤ 4) (hbt : b < bt) (hv3 : bt = v3.heap.size)
    (hI : LegsI w0 b bt N kC g k0 y1 y2 y3 v3 g (kC + 10) k0 y4 y1 y2 ⟨y1, y2, 0, 1 + y3, []⟩ (.slice none 0 0) v5) :
    Code.wp Tryz.prog (Code.loop lineL) (Exit.inBlock 4 (Exit.then K (Exit.inBlock 3 Q))) ⟨(.pointer (some ⟨b, 0, none⟩) :: s1 :: s2 :: s3 :: s4 :: s5 :: s6 :: .int .i64 N :: .int .i64 g :: .pointer (some ⟨bt, 0, none⟩) :: .int .i64 y4 :: .int .i64 y1 :: .int .i64 y2 :: .int .i64 k0 :: s14 :: s15 :: s16 :: s17 :: s18 :: s19 :: s20 :: s21 :: s22 :: s23 :: s24 :: s25 :: s26 :: s27 :: s28 :: s29 :: s30 :: s31 :: s32 :: s33 :: s34 :: s35 :: s36 :: s37 :: s38 :: s39 :: s40 :: s41 :: s42 :: s43 :: s44 :: s45 :: s46 :: s47 :: s48 :: s49 :: s50 :: s51 :: s52 :: s53 :: s54 :: s55 :: s56 :: s57 :: s58 :: s59 :: s60 :: s61 :: s62 :: s63 :: s64 :: s65 :: s66 :: s67 :: s68 :: s69 :: s70 :: s71 :: s72 :: s73 :: s74 :: s75 :: s76 :: s77 :: s78 :: s79 :: s80 :: s81 :: s82 :: s83 :: s84 :: s85 :: s86 :: s87 :: s88 :: s89 :: s90 :: s91 :: s92 :: s93 :: s94 :: s95 :: s96 :: s97 :: s98 :: s99 :: s100 :: s101 :: s102 :: s103 :: s104 :: s105 :: s106 :: s107 :: s108 :: s109 :: s110 :: s111 :: s112 :: s113 :: s114 :: s115 :: s116 :: s117 :: s118 :: s119 :: s120 :: s121 :: s122 :: s123 :: s124 :: s125 :: s126 :: s127 :: s128 :: s129 :: []).toArray, []⟩ v5 := by
  conv => arg 2; arg 1; whnf
  have hK' : Hid _ := hK
  clear hK
  have hv3' : Hid (bt = v3.heap.size) := hv3
  clear hv3
  go_loopw [8, 10, 11, 12, 13] (fun c8 c10 c11 c12 c13 wr => ∃ (g' kk k3 : Nat) (up at' sum : Int) (t : TrL) (lv : Value), c8 = .int .i64 g' ∧ c10 = .int .i64 up ∧ c11 = .int .i64 at' ∧ c12 = .int .i64 sum ∧ c13 = .int .i64 k3 ∧ LegsI w0 b bt N kC g k0 y1 y2 y3 v3 g' kk k3 up at' sum t lv wr) (fun _ _ _ _ c13 _ => (intOf c13).toNat)
  case atStart => exact ⟨g, kC + 10, k0, y4, y1, y2, ⟨y1, y2, 0, 1 + y3, []⟩, _, rfl, rfl, rfl, rfl, rfl, hI⟩
  case round =>
    clear hI
    obtain ⟨g', kk, k3, up, at', sum, t, lv, rfl, rfl, rfl, rfl, rfl, hI⟩ := hrel
    have hTB := hI.tb
    obtain ⟨la, lc, rfl, _⟩ := OwnLegs.legs hTB.legs
    have hgl := hI.gl
    have hkl := hI.kl
    have hkk := hI.kk
    by_cases hk3 : 0 < k3 ∧ 0 < g'
    · have hk31 : (0 : Int) < (k3 : Int) := by omega
      have hk32 : (0 : Int) < (g' : Int) := by omega
      have hat := hI.at_
      have hup := hI.up
      have hsm := hI.sum
      have htl : t.legs.length ≤ 4 := by omega
      have hP6 := pick_any w0 b kk 30 wr (by omega) (by decide) hI.cur
      obtain ⟨i0, ii, iz0, iz1, iz2⟩ := info3 Tryz.infoLeg
      have hbtw : bt < wr.heap.size := ltCell hTB.c0
      have hcase : at' = 0 ∨ (at' ≠ 0 ∧ at' = (N : Int) - 1) ∨ (at' ≠ 0 ∧ at' ≠ (N : Int) - 1 ∧ up = 0) ∨ (at' ≠ 0 ∧ at' ≠ (N : Int) - 1 ∧ up = 1) := by omega
      rcases hcase with rfl | ⟨hn0, rfl⟩ | ⟨hn0, hn1, rfl⟩ | ⟨hn0, hn1, rfl⟩
      all_goals
        have hz1 : ¬ ((0 : Int) = (N : Int) - 1) := by omega
        go_wp2_with (first | (go_at_call 21; with_reducible refine hP6.mono ?_; rintro _ v6 ⟨y6, rfl, hy60, hy61, hD6, hE6⟩; have hP7 := pick_any w0 b (kk + 2) 6 v6 (by omega) (by decide) hD6) | (go_at_call 21; with_reducible refine hP7.mono ?_; rintro _ v7 ⟨y7, rfl, hy70, hy71, hD7, hE7⟩; have hTB7 := (hTB.mid hE6 (by omega) hbt).mid hE7 (by omega) hbt; have hsz7 : bt < v7.heap.size := ltCell hTB7.c0; have m4 := hTB7.c4; have m4' : ∀ o, (v7.alloc o).cell? ⟨bt, 4, none⟩ = some (.slice la t.legs.length lc) := fun o => cellLater (b1 v7 o) m4) | (at_builtin; refine wpList_append_own_at _ rfl _ _ 70 rfl (bt + 1) 74 i0 _ 3 24 Tryz.underlying70 ii iz0 iz1 iz2 rfl (by decide) _ _ _ rfl ((hTB7.later (b1 v7 _)).later (b1 _ _)).legs ⟨v7.heap.size + 1, 0, none⟩ 1 1 _ rfl (by rfl) (legs_lie v7 _ _ _ _) one3 (by unfold maxLen; omega) (by omega) (by simp only [World.size_alloc]; omega) ?_))
        intro v' W1 hown1 hgr1 _ hloc1
        obtain ⟨gn, cn, rfl⟩ := Joins.ownsRow_form hown1 (by omega)
        obtain ⟨m5, z5⟩ := ((hTB7.later (b1 v7 _)).later (b1 _ _)).grown4 hgr1
        clear hP6 hP7 m4 m4'
        go_wp2
        exact ⟨⟨g' - 1, kk + 2 + 2, k3 - 1, _, _, _, _, _, by congr 1; omega, rfl, rfl, rfl, by congr 1; omega, hI.step hv3'.out hbt hE6 hE7 hD7 hk3.2 hk3.1 (by omega) (by omega) (by omega) (by omega) hy60 hy61 hy70 hy71 hown1 hgr1 hloc1⟩, by simp only [intOf]; omega⟩
    · have hlen : 0 < t.legs.length := by omega
      have hcases : (¬ ((0 : Int) < (k3 : Int))) ∨ ((0 : Int) < (k3 : Int) ∧ ¬ ((0 : Int) < (g' : Int))) := by omega
      rcases hcases with hc1 | ⟨hc1, hc2⟩
      all_goals
        go_wp2
        apply hK'.out
        · exact hI
        · exact hlen
        · rfl
        · rfl
end Go.Proofs.YtelickcfodcmaaaGreatDoor

