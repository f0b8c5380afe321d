/-
  A number as the model writes it.
-/
import Derived.Test.YtgdljgjamafpiaaGreatDoorTextP
import Derived.Laws.BytesArg
namespace Go.Proofs.YtgdljgjamafpiaaGreatDoor
open Go.RowKit

theorem itoa_digits {n : Int} (h : 0 ≤ n) : Lib.itoa n = Lib.decDigits n.toNat := by unfold Lib.itoa; rw [if_neg (by omega)]
theorem digit_step {v : Nat} {l d : List UInt8} (hv : 0 < v) (h : Lib.decDigits v ++ l = d) : (v / 10 = 0 → UInt8.ofNat (48 + v % 10) :: l = d) ∧ (0 < v / 10 → Lib.decDigits (v / 10) ++ (UInt8.ofNat (48 + v % 10) :: l) = d) := by
  constructor
  · intro h0
    have h1 : v < 10 := by omega
    rw [Lib.decDigits_one h1] at h
    rw [← h, Nat.mod_eq_of_lt h1]
    rfl
  · intro h0
    have h1 : ¬ v < 10 := by omega
    rw [Lib.decDigits, dif_neg h1] at h
    rw [← h]
    simp

theorem nameV {P : Program} {c : Code} {Q : Exit → Act → World → Prop} {a : Act} {W : World} (h : ∀ W', W' = W → c.wp P Q a W') : c.wp P Q a W := h W rfl
theorem cat (s t : ByteArray) (l m : List UInt8) (hs : s = ba l) (ht : t = ba m) (h : l.length + m.length ≤ 1000000) : ∃ r, (∀ w, (Op.stringOp .add s t).run Tryz.prog w = .ok (.string r) w) ∧ Hid (r = ba (l ++ m)) :=
  ⟨_, fun w => (by rw [hs, ht]; exact add_ba l m h w), rfl⟩
theorem wrapq {q : Nat} (h : q ≤ 99999999) : wrap64 (q : Int) = (q : Int) := by
  unfold wrap64
  omega

set_option maxHeartbeats 4000000 in
theorem l4decimal_any (n : Int) (w : World) (h0 : 0 ≤ n) (h1 : n ≤ 99999999) : Calls Tryz.prog 24 #[.int .i64 n] w fun e w' => e = .returned (.string (ba (Lib.itoa n))) ∧ Below w.heap.size w w' := by
  by_cases hz : n = 0
  · subst hz
    have hv : ba (Lib.itoa 0) = ⟨#[48]⟩ := by rw [itoa_digits (by decide), Lib.decDigits_one (by decide)]; rfl
    rw [hv]
    go_enter Tryz.func24, Tryz.ntmps24
    go_wp2
    go_ret
    exact ⟨rfl, Below.refl _ _⟩
  · have hne : (n == 0) = false := by simpa using hz
    have hlen := itoa_len h0 h1
    have hd : Lib.decDigits n.toNat ++ [] = Lib.itoa n := by rw [itoa_digits h0, List.append_nil]
    generalize Lib.itoa n = D at hd hlen
    obtain ⟨N, rfl⟩ : ∃ N : Nat, n = (N : Int) := ⟨n.toNat, by omega⟩
    rw [Int.toNat_natCast] at hd
    have hN : 0 < N := by omega
    clear hz h0
    go_enter Tryz.func24, Tryz.ntmps24
    go_wp2
    go_loopw [0, 3] (fun nn oo wr => ∃ (v : Nat) (l : List UInt8), nn = .int .i64 v ∧ oo = .string (ba l) ∧ v ≤ 99999999 ∧ (v = 0 → l = D) ∧ (0 < v → Lib.decDigits v ++ l = D) ∧ Below w.heap.size w wr) (fun nn _ _ => (intOf nn).toNat)
    case atStart => exact ⟨N, [], rfl, rfl, by omega, fun h => by omega, fun _ => hd, Below.refl _ _⟩
    case round =>
      obtain ⟨v, l, rfl, rfl, hv, hz, hp, hB⟩ := hrel
      by_cases hv0 : 0 < v
      · have hlt : (0 : Int) < (v : Int) := by omega
        have hst := digit_step hv0 (hp hv0)
        have hll : l.length ≤ 8 := by have := congrArg List.length (hp hv0); simp at this; omega
        have hst' : Hid _ := hst
        have hr : Int.tmod (v : Int) 10 = ((v % 10 : Nat) : Int) := by rw [Int.tmod_eq_emod_of_nonneg (by omega)]; omega
        have hq : Int.tdiv (v : Int) 10 = ((v / 10 : Nat) : Int) := by rw [Int.tdiv_eq_ediv_of_nonneg (by omega)]; omega
        have hm : v % 10 < 10 := Nat.mod_lt _ (by decide)
        clear hz hp hst
        generalize v % 10 = r at hr hst' hm
        generalize v / 10 = q at hq hst'
        have hw8 : IntKind.u8.wrap (48 + (r : Int)) = 48 + (r : Int) := by rw [IntKind.wrap_u8]; omega
        have hw64 : IntKind.i64.wrap (48 + (r : Int)) = 48 + (r : Int) := by rw [IntKind.wrap_i64]; omega
        have hc1 : ∀ i, i < 1 → (wr.alloc (.cells #[.int .u8 (48 + (r : Int))] 5)).cell? ⟨wr.heap.size, 0 + i, none⟩ = some (.int .u8 ([48 + (r : Int)].getD i 0)) := fun i hi => by
          obtain rfl : i = 0 := by omega
          simp
        have hconv := run_convert_bytes_arg (P := Tryz.prog) (wr.alloc (.cells #[.int .u8 (48 + (r : Int))] 5)) 22 5 Tryz.underlying22 Tryz.underlying5 wr.heap.size 0 1 1 [48 + (r : Int)] rfl hc1 9 Tryz.underlying9
        have hs : strOfNums [48 + (r : Int)] = ba [UInt8.ofNat (48 + r)] := by
          unfold strOfNums ba
          have : (48 + (r : Int)).toNat = 48 + r := by omega
          simp [this]
        rw [hs] at hconv
        have hadd := add_ba [UInt8.ofNat (48 + r)] l (by simp; omega)
        clear hc1 hs
        generalize UInt8.ofNat (48 + r) = d at hconv hadd hst'
        have hqv : q < v := by
          have h2 : (v : Int).tdiv 10 = (v : Int) / 10 := Int.tdiv_eq_ediv_of_nonneg (by omega)
          omega
        have hqv' : Hid _ := hqv
        clear hqv
        generalize hs1 : ba [d] = s1 at hconv hadd
        generalize hs2 : ba l = s2 at hadd ⊢
        generalize hs3 : ba ([d] ++ l) = s3 at hadd
        have hs3' : Hid _ := hs3
        clear hs1 hs2 hs3
        go_wp2
        have hqv := hqv'.out
        have hs3 := hs3'.out
        subst hs3
        have hwq : wrap64 (q : Int) = (q : Int) := wrapq (Nat.le_trans (Nat.le_of_lt hqv) hv)
        rw [hwq]
        refine ⟨⟨q, d :: l, rfl, rfl, Nat.le_trans (Nat.le_of_lt hqv) hv, hst'.out.1, hst'.out.2, hB.alloc hB.size _⟩, ?_⟩
        show ((q : Int)).toNat < ((v : Int)).toNat
        rw [Int.toNat_natCast, Int.toNat_natCast]
        exact hqv
      · obtain rfl : v = 0 := by omega
        have hl := hz rfl
        subst hl
        go_wp2
        go_ret
        exact ⟨rfl, hB⟩
end Go.Proofs.YtgdljgjamafpiaaGreatDoor
