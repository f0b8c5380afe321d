/-
  The numbers of a text: what Atoi and Itoa say of digits.
-/
import Derived.Test.YtgdljgjamafpiaaGreatDoorPlainX
import Derived.Lib.AtoiAllCases
namespace Go.Proofs.YtgdljgjamafpiaaGreatDoor
open Go.RowKit

theorem dig_range {b : UInt8} (h : dig b = true) : 48 ≤ b.toNat ∧ b.toNat ≤ 57 := by
  unfold dig at h
  simpa using h
def natVal (acc : Nat) (l : Bs) : Nat := l.foldl (fun n b => n * 10 + (b.toNat - 48)) acc
theorem natVal_snoc (acc : Nat) (x : Bs) (b : UInt8) : natVal acc (x ++ [b]) = natVal acc x * 10 + (b.toNat - 48) := by
  unfold natVal
  rw [List.foldl_append]
  rfl
theorem numVal_nat (l : Bs) (h : l.all dig = true) : numVal l = (natVal 0 l : Int) := by
  unfold numVal natVal
  suffices ∀ (acc : Nat), l.foldl (fun n b => 10 * n + ((b.toNat : Int) - 48)) (acc : Int) = ((l.foldl (fun n b => n * 10 + (b.toNat - 48)) acc : Nat) : Int) from this 0
  induction l with
  | nil => exact fun _ => rfl
  | cons b l ih =>
    intro acc
    rw [List.all_cons, Bool.and_eq_true] at h
    have hb := dig_range h.1
    rw [List.foldl_cons, List.foldl_cons, ← ih h.2]
    congr 1
    omega
theorem parse_digits (l : Bs) : ∀ (acc j : Nat), l.all dig = true → acc < 10 ^ j → j + l.length ≤ 17 → Lib.parseUint10 acc l = .ok (natVal acc l) ∧ natVal acc l < 10 ^ (j + l.length) := by
  induction l with
  | nil => exact fun acc j _ ha _ => ⟨rfl, ha⟩
  | cons b l ih =>
    intro acc j h ha hj
    rw [List.all_cons, Bool.and_eq_true] at h
    rw [List.length_cons] at hj
    have hb := dig_range h.1
    have h1 : 10 ^ j ≤ 10 ^ 16 := Nat.pow_le_pow_right (by decide) (by omega)
    have h2 : (10 : Nat) ^ 16 = 10000000000000000 := by decide
    have h3 : acc * 10 + (b.toNat - 48) < 10 ^ (j + 1) := by rw [Nat.pow_succ]; omega
    obtain ⟨e1, e2⟩ := ih (acc * 10 + (b.toNat - 48)) (j + 1) h.2 h3 (by omega)
    refine ⟨?_, by rw [List.length_cons, show j + (l.length + 1) = j + 1 + l.length by omega]; exact e2⟩
    rw [Lib.parseUint10, if_pos hb, if_neg (by omega), if_neg (by omega)]
    exact e1
theorem decDigits_val (n : Nat) : ∀ (l : Bs), l.length = n + 1 → l.all dig = true → (l.length = 1 ∨ l.head? ≠ some 48) → Lib.decDigits (natVal 0 l) = l ∧ (l.head? ≠ some 48 → 0 < natVal 0 l) := by
  induction n with
  | zero =>
    intro l hl hd _
    obtain ⟨b, rfl⟩ : ∃ b, l = [b] := List.length_eq_one_iff.1 hl
    have hb := dig_range (b := b) (by simpa using hd)
    have hv : natVal 0 [b] = b.toNat - 48 := by simp [natVal]
    rw [hv]
    refine ⟨?_, fun hne => ?_⟩
    · rw [Lib.decDigits_one (by omega), show 48 + (b.toNat - 48) = b.toNat by omega, UInt8.ofNat_toNat]
    · have : b.toNat ≠ 48 := fun e => hne (by rw [← UInt8.ofNat_toNat (x := b), e]; rfl)
      omega
  | succ n ih =>
    intro l hl hd hh
    rcases List.eq_nil_or_concat l with rfl | ⟨x, b, rfl⟩
    · simp at hl
    · rw [List.concat_eq_append] at *
      rw [List.length_append, List.length_singleton] at hl
      rw [List.all_append, Bool.and_eq_true] at hd
      have hb := dig_range (b := b) (by simpa using hd.2)
      have hx : x ≠ [] := by rintro rfl; simp at hl
      have hhd : (x ++ [b]).head? = x.head? := by cases x with
        | nil => exact absurd rfl hx
        | cons c x => rfl
      have hne : x.head? ≠ some 48 := by
        rcases hh with h | h
        · rw [List.length_append, List.length_singleton] at h; omega
        · rw [← hhd]; exact h
      obtain ⟨e1, e2⟩ := ih x (by omega) hd.1 (Or.inr hne)
      have hp := e2 hne
      rw [natVal_snoc]
      refine ⟨?_, fun _ => by omega⟩
      rw [Lib.decDigits, dif_neg (by omega), show (natVal 0 x * 10 + (b.toNat - 48)) / 10 = natVal 0 x by omega, show 48 + (natVal 0 x * 10 + (b.toNat - 48)) % 10 = b.toNat by omega, UInt8.ofNat_toNat, e1]
theorem numOk_parts {l : Bs} (h : numOk l = true) : l.all dig = true ∧ 0 < l.length ∧ l.length ≤ 7 ∧ (l.length = 1 ∨ l.head? ≠ some 48) := by
  unfold numOk at h
  simp only [Bool.and_eq_true, Bool.or_eq_true, decide_eq_true_eq, Bool.not_eq_true', beq_eq_false_iff_ne] at h
  exact ⟨h.1.1.1, h.1.1.2, h.1.2, h.2⟩
theorem numOk_of {l : Bs} (h1 : l.all dig = true) (h2 : 0 < l.length) (h3 : l.length ≤ 7) (h4 : l.length = 1 ∨ l.head? ≠ some 48) : numOk l = true := by
  unfold numOk
  simp only [Bool.and_eq_true, Bool.or_eq_true, decide_eq_true_eq, Bool.not_eq_true', beq_eq_false_iff_ne]
  exact ⟨⟨⟨h1, h2⟩, h3⟩, h4⟩
/-- a number that may stand in a text -/
theorem num_ok {l : Bs} (h : numOk l = true) : Lib.atoiAll l = .ok (numVal l) ∧ 0 ≤ numVal l ∧ numVal l ≤ 9999999 ∧ Lib.itoa (numVal l) = l := by
  obtain ⟨h1, h2, h3, h4⟩ := numOk_parts h
  obtain ⟨e1, e2⟩ := parse_digits l 0 0 h1 (by decide) (by omega)
  have hlt : natVal 0 l < 10 ^ 7 := Nat.lt_of_lt_of_le e2 (Nat.pow_le_pow_right (by decide) (by omega))
  have h7 : (10 : Nat) ^ 7 = 10000000 := by decide
  rw [numVal_nat l h1]
  refine ⟨?_, by omega, by omega, ?_⟩
  · cases l with
    | nil => simp at h2
    | cons c r =>
      rw [List.all_cons, Bool.and_eq_true] at h1
      have hc := dig_range h1.1
      rw [Lib.atoiAll_plain c r (by omega) (by omega)]
      unfold Lib.parseMag
      rw [if_neg (by simp), e1]
      unfold Lib.signless
      show (if 9223372036854775808 ≤ natVal 0 (c :: r) then _ else _) = _
      rw [if_neg (by omega)]
  · unfold Lib.itoa
    rw [if_neg (by omega), Int.toNat_natCast]
    exact (decDigits_val (l.length - 1) l (by omega) h1 h4).1
theorem decDigits_good (u : Nat) : (Lib.decDigits u).all dig = true ∧ 0 < (Lib.decDigits u).length ∧ (0 < u → (Lib.decDigits u).head? ≠ some 48) := by
  have hdig : ∀ k, k < 10 → dig (UInt8.ofNat (48 + k)) = true ∧ (0 < k → UInt8.ofNat (48 + k) ≠ 48) := by decide
  induction u using Nat.strongRecOn with
  | _ u ih =>
    by_cases h : u < 10
    · rw [Lib.decDigits_one h]
      exact ⟨by rw [List.all_cons, (hdig u h).1]; rfl, Nat.one_pos, fun h0 e => (hdig u h).2 h0 (Option.some.inj e)⟩
    · obtain ⟨i1, i2, i3⟩ := ih (u / 10) (by omega)
      rw [Lib.decDigits, dif_neg h]
      refine ⟨by rw [List.all_append, i1, List.all_cons, (hdig (u % 10) (by omega)).1]; rfl, by simp, fun _ => ?_⟩
      have := i3 (by omega)
      cases e : Lib.decDigits (u / 10) with
      | nil => rw [e] at i2; simp at i2
      | cons c r => rw [e] at this; exact this
theorem numOk_itoa {v : Int} (h0 : 0 ≤ v) (h1 : v ≤ 9999999) : numOk (Lib.itoa v) = true := by
  unfold Lib.itoa
  rw [if_neg (by omega)]
  obtain ⟨g1, g2, g3⟩ := decDigits_good v.toNat
  have h7 : (10 : Nat) ^ (6 + 1) = 10000000 := by decide
  have hlen : (Lib.decDigits v.toNat).length ≤ 7 := by rw [Lib.decDigits_length]; exact nDigits_le 6 v.toNat (by omega)
  refine numOk_of g1 g2 hlen ?_
  by_cases hz : v.toNat = 0
  · exact Or.inl (by rw [hz, Lib.decDigits_one (by decide)]; rfl)
  · exact Or.inr (g3 (by omega))
/-- digits that may not -/
theorem num_no {l : Bs} (hd : l.all dig = true) (h : numOk l = false) : Lib.atoiAll l = .«syntax» ∨ Lib.atoiAll l = .range ∨ ∃ v, Lib.atoiAll l = .ok v ∧ (9999999 < v ∨ Lib.itoa v ≠ l) := by
  cases e : Lib.atoiAll l with
  | «syntax» => exact Or.inl rfl
  | range => exact Or.inr (Or.inl rfl)
  | ok v =>
    refine Or.inr (Or.inr ⟨v, rfl, ?_⟩)
    by_cases hv : 9999999 < v
    · exact Or.inl hv
    · refine Or.inr fun hi => ?_
      by_cases h0 : 0 ≤ v
      · have := numOk_itoa h0 (by omega)
        rw [hi, h] at this
        cases this
      · unfold Lib.itoa at hi
        rw [if_pos (by omega)] at hi
        rw [← hi, List.all_cons, Bool.and_eq_true] at hd
        exact absurd hd.1 (by decide)
end Go.Proofs.YtgdljgjamafpiaaGreatDoor
