/-
  A text as plain bytes: what a row of a kind is, taken piece by piece, and cut at its blanks.
-/
import Derived.Test.YtgdljgjamafpiaaGreatDoorTextP
namespace Go.Proofs.YtgdljgjamafpiaaGreatDoor
open Go.RowKit

abbrev Bs := List UInt8
def dig (b : UInt8) : Bool := decide (48 ≤ b.toNat) && decide (b.toNat ≤ 57)
def numVal (l : Bs) : Int := l.foldl (fun n b => 10 * n + ((b.toNat : Int) - 48)) 0
def numOk (l : Bs) : Bool := l.all dig && decide (0 < l.length) && decide (l.length ≤ 7) && (decide (l.length = 1) || !(l.head? == some 48))
/-- a line, cut at each of its blanks -/
def cutB : Bs → List Bs
  | [] => [[]]
  | b :: t => if b = 32 then [] :: cutB t else match cutB t with
    | x :: xs => (b :: x) :: xs
    | [] => [[b]]
/-- what stands in a pattern -/
inductive Tok where
  | word (w : Bs)
  | num
def tokOk : Tok → Bs → Option (List Int)
  | .word w, x => if x = w then some [] else none
  | .num, x => if numOk x then some [numVal x] else none
def likeB : List Tok → List Bs → Option (List Int)
  | [], [] => some []
  | t :: ts, x :: xs => (tokOk t x).bind fun a => (likeB ts xs).map fun b => a ++ b
  | [], _ :: _ => none
  | _ :: _, [] => none
/-- piece by piece -/
def takeB (p s : Bs) : Option Bs := if p.isPrefixOf s then some (s.drop p.length) else none
def numB (s : Bs) : Option (List Int × Bs) := if numOk (s.takeWhile dig) then some ([numVal (s.takeWhile dig)], s.drop (s.takeWhile dig).length) else none
def tokB : Tok → Bs → Option (List Int × Bs)
  | .word w, s => (takeB w s).map fun r => ([], r)
  | .num, s => numB s
/-- each behind a blank, and the row's end -/
def restB : List Tok → Bs → Option (List Int × Bs)
  | [], s => (takeB [10] s).map fun r => ([], r)
  | t :: ts, s => (takeB [32] s).bind fun r => (tokB t r).bind fun x => (restB ts x.2).map fun y => (x.1 ++ y.1, y.2)
def rowB : List Tok → Bs → Option (List Int × Bs)
  | [], s => restB [] s
  | t :: ts, s => (tokB t s).bind fun x => (restB ts x.2).map fun y => (x.1 ++ y.1, y.2)

theorem tokOk_word (w x : Bs) : tokOk (.word w) x = if x = w then some [] else none := rfl
theorem tokOk_num (x : Bs) : tokOk .num x = if numOk x then some [numVal x] else none := rfl
theorem tokB_word (w s : Bs) : tokB (.word w) s = (takeB w s).map fun r => ([], r) := rfl
theorem tokB_num (s : Bs) : tokB .num s = numB s := rfl

/-- no blank, no newline -/
def Free (x : Bs) : Prop := ∀ b ∈ x, b ≠ 32 ∧ b ≠ 10
def Good : Tok → Prop
  | .word w => Free w
  | .num => True

theorem takeB_one (c d : UInt8) (s : Bs) : takeB [c] (d :: s) = if c = d then some s else none := by
  unfold takeB
  by_cases h : c = d
  · subst h; simp
  · simp [h]
theorem dig_free {b : UInt8} (h : dig b = true) : b ≠ 32 ∧ b ≠ 10 := by
  constructor <;> (rintro rfl; revert h; decide)

theorem prefix_case {w x : Bs} {e : UInt8} {r : Bs} (hw : Free w) (he : e = 32 ∨ e = 10) (h : w <+: x ++ e :: r) : ∃ y, x = w ++ y := by
  induction w generalizing x with
  | nil => exact ⟨x, rfl⟩
  | cons b w ih =>
    cases x with
    | nil =>
      rw [List.nil_append, List.cons_prefix_cons] at h
      have := hw b (List.mem_cons_self ..)
      rcases he with rfl | rfl <;> simp_all
    | cons c x =>
      rw [List.cons_append, List.cons_prefix_cons] at h
      obtain ⟨y, rfl⟩ := ih (fun b hb => hw b (List.mem_cons_of_mem _ hb)) h.2
      exact ⟨y, by rw [h.1]; rfl⟩

theorem takeWhile_free {x : Bs} {e : UInt8} {r : Bs} (he : e = 32 ∨ e = 10) : (x ++ e :: r).takeWhile dig = x.takeWhile dig := by
  have hd : dig e = false := by rcases he with rfl | rfl <;> decide
  induction x with
  | nil => simp [List.takeWhile, hd]
  | cons b x ih =>
    rw [List.cons_append, List.takeWhile_cons, List.takeWhile_cons]
    split
    · rw [ih]
    · rfl
theorem takeWhile_all {x : Bs} (h : x.all dig = true) : x.takeWhile dig = x := by
  induction x with
  | nil => rfl
  | cons b x ih =>
    rw [List.all_cons, Bool.and_eq_true] at h
    rw [List.takeWhile_cons, if_pos h.1, ih h.2]
theorem takeWhile_split (x : Bs) : ∃ y, x = x.takeWhile dig ++ y ∧ (y = [] → x.takeWhile dig = x) := by
  refine ⟨x.dropWhile dig, (List.takeWhile_append_dropWhile ..).symm, fun h => ?_⟩
  have := List.takeWhile_append_dropWhile (p := dig) (l := x)
  rw [h, List.append_nil] at this
  exact this

/-- one piece, at a word that ends at e -/
theorem tokB_at {t : Tok} {x : Bs} {e : UInt8} {r : Bs} (ht : Good t) (hx : Free x) (he : e = 32 ∨ e = 10) :
    (∃ a, tokOk t x = some a ∧ tokB t (x ++ e :: r) = some (a, e :: r)) ∨ (tokOk t x = none ∧ (tokB t (x ++ e :: r) = none ∨ ∃ a c s, tokB t (x ++ e :: r) = some (a, c :: s) ∧ c ≠ 32 ∧ c ≠ 10)) := by
  cases t with
  | word w =>
    by_cases h : w <+: x ++ e :: r
    · have hp : w.isPrefixOf (x ++ e :: r) = true := List.isPrefixOf_iff_prefix.2 h
      obtain ⟨y, rfl⟩ := prefix_case ht he h
      have hb : tokB (.word w) (w ++ y ++ e :: r) = some ([], y ++ e :: r) := by
        rw [tokB_word]; unfold takeB
        rw [if_pos hp, List.append_assoc, List.drop_left]
        rfl
      cases y with
      | nil => exact Or.inl ⟨[], by simp [tokOk], by rw [hb]; rfl⟩
      | cons c y =>
        have hc := hx c (by simp)
        exact Or.inr ⟨by simp [tokOk], Or.inr ⟨[], c, y ++ e :: r, hb, hc⟩⟩
    · have hp : w.isPrefixOf (x ++ e :: r) = false := by
        rw [Bool.eq_false_iff]; exact fun hh => h (List.isPrefixOf_iff_prefix.1 hh)
      refine Or.inr ⟨?_, Or.inl ?_⟩
      · rw [tokOk_word]
        rw [if_neg]
        rintro rfl
        exact h (List.prefix_append _ _)
      · rw [tokB_word]; unfold takeB
        rw [hp]
        rfl
  | num =>
    have htw : (x ++ e :: r).takeWhile dig = x.takeWhile dig := takeWhile_free he
    obtain ⟨y, hy, hy0⟩ := takeWhile_split x
    by_cases hn : numOk (x.takeWhile dig) = true
    · have hb : tokB .num (x ++ e :: r) = some ([numVal (x.takeWhile dig)], y ++ e :: r) := by
        rw [tokB_num]; unfold numB
        rw [htw, if_pos hn]
        congr 2
        conv => lhs; arg 2; rw [hy]
        rw [List.append_assoc, List.drop_left]
      cases y with
      | nil =>
        have e0 := hy0 rfl
        rw [e0] at hn hb
        exact Or.inl ⟨[numVal x], by simp [tokOk, hn], by rw [hb]; rfl⟩
      | cons c y =>
        have hc := hx c (by rw [hy]; simp)
        refine Or.inr ⟨?_, Or.inr ⟨_, c, y ++ e :: r, hb, hc⟩⟩
        rw [tokOk_num]
        rw [if_neg]
        intro hk
        unfold numOk at hk
        simp only [Bool.and_eq_true] at hk
        have := takeWhile_all hk.1.1.1
        rw [this] at hy
        have := congrArg List.length hy
        simp at this
    · refine Or.inr ⟨?_, Or.inl ?_⟩
      · rw [tokOk_num]
        rw [if_neg]
        intro hk
        have hk' := hk
        unfold numOk at hk'
        simp only [Bool.and_eq_true] at hk'
        rw [takeWhile_all hk'.1.1.1] at hn
        exact hn hk
      · rw [tokB_num]; unfold numB
        rw [htw, if_neg hn]

/-- the rest of a line, its words apart -/
def tailT : List Bs → Bs → Bs
  | [], r => 10 :: r
  | x :: xs, r => 32 :: (x ++ tailT xs r)
theorem tailT_head (xs : List Bs) (r : Bs) : ∃ e s, tailT xs r = e :: s ∧ (e = 32 ∨ e = 10) := by
  cases xs with
  | nil => exact ⟨10, r, rfl, Or.inr rfl⟩
  | cons x xs => exact ⟨32, _, rfl, Or.inl rfl⟩
theorem restB_other {ts : List Tok} {c : UInt8} {s : Bs} (h : c ≠ 32 ∧ c ≠ 10) : restB ts (c :: s) = none := by
  cases ts with
  | nil => simp [restB, takeB_one, h.2.symm]
  | cons t ts => simp [restB, takeB_one, h.1.symm]
theorem restB_tail (ts : List Tok) (xs : List Bs) (r : Bs) (ht : ∀ t ∈ ts, Good t) (hx : ∀ x ∈ xs, Free x) : restB ts (tailT xs r) = (likeB ts xs).map fun a => (a, r) := by
  induction ts generalizing xs with
  | nil =>
    cases xs with
    | nil => simp [restB, tailT, takeB_one, likeB]
    | cons x xs => simp [restB, tailT, takeB_one, likeB]
  | cons t ts ih =>
    cases xs with
    | nil => simp [restB, tailT, takeB_one, likeB]
    | cons x xs =>
      have h1 := ih xs (fun t h => ht t (List.mem_cons_of_mem _ h)) (fun x h => hx x (List.mem_cons_of_mem _ h))
      obtain ⟨e, s, hs, he⟩ := tailT_head xs r
      rw [tailT, restB, takeB_one, if_pos rfl, hs, likeB]
      rw [hs] at h1
      show (tokB t (x ++ e :: s)).bind _ = _
      rcases tokB_at (r := s) (ht t (List.mem_cons_self ..)) (hx x (List.mem_cons_self ..)) he with ⟨a, h2, h3⟩ | ⟨h2, h3 | ⟨a, c, q, h3, hc⟩⟩
      · rw [h2, h3]
        show (restB ts (e :: s)).map _ = ((likeB ts xs).map _).map _
        rw [h1]
        cases likeB ts xs <;> rfl
      · rw [h2, h3]; rfl
      · rw [h2, h3]
        show (restB ts (c :: q)).map _ = none
        rw [restB_other hc]
        rfl
theorem rowB_line (ts : List Tok) (x : Bs) (xs : List Bs) (r : Bs) (h0 : ts ≠ []) (ht : ∀ t ∈ ts, Good t) (hx : ∀ y ∈ x :: xs, Free y) : rowB ts (x ++ tailT xs r) = (likeB ts (x :: xs)).map fun a => (a, r) := by
  have h := restB_tail ts (x :: xs) r ht hx
  cases ts with
  | nil => exact absurd rfl h0
  | cons t ts =>
    rw [← h, tailT, restB, takeB_one, if_pos rfl]
    rfl
/-- a line, cut: put together again -/
theorem cutB_line (l r : Bs) (h : ∀ b ∈ l, b ≠ 10) : ∃ x xs, cutB l = x :: xs ∧ l ++ 10 :: r = x ++ tailT xs r ∧ ∀ y ∈ x :: xs, Free y := by
  induction l with
  | nil => exact ⟨[], [], rfl, rfl, fun y hy => by rw [List.mem_singleton.1 hy]; exact fun b hb => by cases hb⟩
  | cons b t ih =>
    obtain ⟨x, xs, hc, he, hf⟩ := ih (fun b hb => h b (List.mem_cons_of_mem _ hb))
    by_cases hb : b = 32
    · subst hb
      refine ⟨[], x :: xs, by simp [cutB, hc], by rw [List.cons_append, he]; rfl, fun y hy => ?_⟩
      rcases List.mem_cons.1 hy with rfl | hy
      · exact fun b hb => by cases hb
      · exact hf y hy
    · refine ⟨b :: x, xs, by simp [cutB, hc, hb], by rw [List.cons_append, he]; rfl, fun y hy => ?_⟩
      rcases List.mem_cons.1 hy with rfl | hy
      · intro d hd
        rcases List.mem_cons.1 hd with rfl | hd
        · exact ⟨hb, h d (List.mem_cons_self ..)⟩
        · exact hf x (List.mem_cons_self ..) d hd
      · exact hf y (List.mem_cons_of_mem _ hy)
/-- the meeting point: a row, piece by piece, is the line cut at its blanks -/
theorem rowB_cut (ts : List Tok) (l r : Bs) (h0 : ts ≠ []) (ht : ∀ t ∈ ts, Good t) (h : ∀ b ∈ l, b ≠ 10) : rowB ts (l ++ 10 :: r) = (likeB ts (cutB l)).map fun a => (a, r) := by
  obtain ⟨x, xs, hc, he, hf⟩ := cutB_line l r h
  rw [hc, he]
  exact rowB_line ts x xs r h0 ht hf

theorem takeB_sub {p s r : Bs} (h : takeB p s = some r) : s = p ++ r := by
  unfold takeB at h
  split at h
  · rename_i hp
    obtain ⟨q, rfl⟩ := List.isPrefixOf_iff_prefix.1 hp
    rw [List.drop_left] at h
    rw [Option.some.inj h]
  · cases h
theorem tokB_sub {t : Tok} {s r : Bs} {a : List Int} (h : tokB t s = some (a, r)) : ∃ p, s = p ++ r := by
  cases t with
  | word w =>
    rw [tokB_word] at h
    cases e : takeB w s with
    | none => rw [e] at h; cases h
    | some q => rw [e] at h; cases h; exact ⟨w, takeB_sub e⟩
  | num =>
    rw [tokB_num] at h; unfold numB at h
    split at h
    · simp only [Option.some.injEq, Prod.mk.injEq] at h
      exact ⟨s.take (s.takeWhile dig).length, by rw [← h.2, List.take_append_drop]⟩
    · cases h
theorem restB_newline {ts : List Tok} {s r : Bs} {a : List Int} (h : restB ts s = some (a, r)) : 10 ∈ s := by
  induction ts generalizing s a with
  | nil =>
    unfold restB at h
    cases e : takeB [10] s with
    | none => rw [e] at h; cases h
    | some q => rw [takeB_sub e]; simp
  | cons t ts ih =>
    unfold restB at h
    cases e : takeB [32] s with
    | none => rw [e] at h; cases h
    | some q =>
      rw [e] at h
      cases e2 : tokB t q with
      | none => simp [e2] at h
      | some x =>
        obtain ⟨b, q2⟩ := x
        cases e3 : restB ts q2 with
        | none => simp [e2, e3] at h
        | some y =>
          obtain ⟨p, rfl⟩ := tokB_sub e2
          have := ih (s := q2) (a := y.1) (by
            obtain ⟨y1, y2⟩ := y
            simp [e2, e3] at h
            rw [e3, h.2])
          rw [takeB_sub e]
          simp [this]
/-- without a newline there is no row -/
theorem rowB_none (ts : List Tok) (s : Bs) (h : 10 ∉ s) : rowB ts s = none := by
  cases e : rowB ts s with
  | none => rfl
  | some x =>
    obtain ⟨a, r⟩ := x
    cases ts with
    | nil => exact absurd (restB_newline e) h
    | cons t ts =>
      unfold rowB at e
      cases e2 : tokB t s with
      | none => simp [e2] at e
      | some x =>
        obtain ⟨b, q⟩ := x
        cases e3 : restB ts q with
        | none => simp [e2, e3] at e
        | some y =>
          obtain ⟨y1, y2⟩ := y
          obtain ⟨p, rfl⟩ := tokB_sub e2
          exact absurd (List.mem_append_right p (restB_newline e3)) h
end Go.Proofs.YtgdljgjamafpiaaGreatDoor
