/-
  The model's next leg: from when on it can begin.
-/
import Derived.Test.YtelickcfodcmaaaGreatDoorSpecV
namespace Go.Proofs.YtelickcfodcmaaaGreatDoor
open Go.RowKit

set_option maxHeartbeats 2000000 in
theorem l2readyP_any (a : Option Addr) (len cap : Nat) (gap : Int) (a' : Option Addr) (np cap' : Nat) (f : Nat → TrainD) (c : Option Addr) (nc : Nat) (P : Nat → RowD) (last : Int) (i : Nat) (w : World)
    (hR : RightL len np f) (hQ : PartP np f P last) (hi : i < np) (hk : (P i).n < (f i).nl) (hT : IsTrains 0 w.heap.size w a' np f) (hP : IsRows 0 w.heap.size w c np P) :
    Calls Tryz.prog 31 #[.agg #[.slice a len cap, .int .i64 gap, .slice a' np cap'], .agg #[.slice c np nc], .int .i64 i, .int .i64 (P i).n] w fun e w' => e = .returned (.int .i64 (readyOf f P i (P i).n)) ∧ Below w.heap.size w w' := by
  have htr := hR.tr
  have hRi := hR.train i hi
  have hr0 := hRi.r0
  have hr1 := hRi.r1
  have hnl := hRi.nl
  have hi' : (i : Int) < (np : Int) := by omega
  have hat := hQ.at0 i hi
  have hl1 := hQ.l1
  obtain ⟨b, off, la, lc, rfl, _, hb, t0, t1, t2, t3, t4, hlg, _⟩ := hT i hi
  obtain ⟨bp, op, lp, lpc, rfl, _, hbp, p0, hin, _⟩ := hP i hi
  generalize hpn : (P i).n = n at *
  cases n with
  | zero =>
    obtain ⟨l0, l1, l2, l3⟩ := hRi.leg 0 hk
    obtain ⟨bl, ol, rfl, _, hbl, g0, g1, g2⟩ := hlg 0 hk
    have hk0 : (0 : Int) < ((f i).nl : Int) := by omega
    simp only [Nat.zero_mul, Nat.add_zero] at g0 g1 g2
    go_enter Tryz.func31, Tryz.ntmps31
    go_wp2
    refine nameW fun W3 hW3 => ?_
    have hB3 : Below w.heap.size w W3 := hW3 ▸ b3 _ _ _ _
    have x1 : W3.cell? ⟨w.heap.size + 1 + 1, 1, none⟩ = some (.int .i64 (f i).ready) := by rw [hW3, World.cell?_alloc_at _ _ _ _ (by simp)]; rfl
    have x4 : W3.cell? ⟨w.heap.size + 1 + 1, 4, none⟩ = some (.slice (some ⟨bl, ol, none⟩) (f i).nl lc) := by rw [hW3, World.cell?_alloc_at _ _ _ _ (by simp)]; rfl
    replace g2 := cellLater hB3 g2
    clear hW3
    go_region_held3 (fun w' => w'.cell? ⟨w.heap.size + 1 + 1, 1, none⟩ = some (.int .i64 (f i).ready) ∧ w'.cell? ⟨w.heap.size + 1 + 1, 4, none⟩ = some (.slice (some ⟨bl, ol, none⟩) (f i).nl lc) ∧ w'.cell? ⟨bl, ol + 2, none⟩ = some (.int .i64 ((f i).leg 0).stay)) (go_keep) (fail)
    go_wp2
    go_ret
    exact ⟨ret_int (by rw [IntKind.wrap_i64]; simp only [readyOf]; omega), hB3.drew⟩
  | succ k =>
    have e0 : ((k + 1 : Nat) : Int) = (k : Int) + 1 := by omega
    rw [e0]
    have hz : ((k : Int) + 1 == 0) = false := by simp; omega
    obtain ⟨l0, l1, l2, l3⟩ := hRi.leg k (by omega)
    obtain ⟨l4, l5, l6, l7⟩ := hRi.leg (k + 1) hk
    obtain ⟨s0, s1⟩ := hat k (by omega)
    obtain ⟨bl, ol, rfl, _, hbl, g0, g1, g2⟩ := hlg k (by omega)
    obtain ⟨bl', ol', el, _, _, g0', g1', g2'⟩ := hlg (k + 1) hk
    simp only [Option.some.injEq, Addr.mk.injEq] at el
    obtain ⟨rfl, rfl, _⟩ := el
    obtain ⟨bi, oi, rfl, _, hbi, q0⟩ := hin k (by omega)
    have hk1 : (k : Int) + 1 < ((f i).nl : Int) := by omega
    have hk2 : (k : Int) < ((k + 1 : Nat) : Int) := by omega
    have hk3 : (k : Int) < ((f i).nl : Int) := by omega
    have hk4 : (k : Int) < (k : Int) + 1 := by omega
    have hw1 : IntKind.i64.wrap ((k : Int) + 1 - 1) = (k : Int) := by rw [IntKind.wrap_i64]; omega
    have hw2 : IntKind.i64.wrap (k : Int) = (k : Int) := by rw [IntKind.wrap_i64]; omega
    have hn0 : (0 : Int) ≤ (k : Int) := by omega
    have hn1 : (0 : Int) ≤ (k : Int) + 1 := by omega
    have hn2 : ((k : Int) + 1).toNat = k + 1 := by omega
    go_enter Tryz.func31, Tryz.ntmps31
    go_wp2
    refine nameW fun W3 hW3 => ?_
    have hB3 : Below w.heap.size w W3 := hW3 ▸ b3 _ _ _ _
    have x0 : W3.cell? ⟨w.heap.size + 1, 0, none⟩ = some (.slice (some ⟨bp, op, none⟩) np nc) := by rw [hW3, World.cell?_alloc_lt _ _ ⟨w.heap.size + 1, 0, none⟩ (by simp), World.cell?_alloc_at _ _ _ _ (by simp)]; rfl
    have x4 : W3.cell? ⟨w.heap.size + 1 + 1, 4, none⟩ = some (.slice (some ⟨bl, ol, none⟩) (f i).nl lc) := by rw [hW3, World.cell?_alloc_at _ _ _ _ (by simp)]; rfl
    replace p0 := cellLater hB3 p0
    replace q0 := cellLater hB3 q0
    replace g1 := cellLater hB3 g1
    replace g2' := cellLater hB3 g2'
    clear hW3
    go_region_held3 (fun w' => w'.cell? ⟨w.heap.size + 1, 0, none⟩ = some (.slice (some ⟨bp, op, none⟩) np nc) ∧ w'.cell? ⟨bp, op + i, none⟩ = some (.slice (some ⟨bi, oi, none⟩) (k + 1) lpc) ∧ w'.cell? ⟨bi, oi + k, none⟩ = some (.int .i64 ((P i).s k)) ∧ w'.cell? ⟨w.heap.size + 1 + 1, 4, none⟩ = some (.slice (some ⟨bl, ol, none⟩) (f i).nl lc) ∧ w'.cell? ⟨bl, ol + k * 3 + 1, none⟩ = some (.int .i64 ((f i).leg k).run) ∧ w'.cell? ⟨bl, ol + (k + 1) * 3 + 2, none⟩ = some (.int .i64 ((f i).leg (k + 1)).stay)) (go_keep) (fail)
    go_wp2
    go_ret
    exact ⟨ret_int (by rw [IntKind.wrap_i64, IntKind.wrap_i64]; simp only [readyOf]; omega), hB3.drew⟩

/-- the least time from t on at which one leaves, among the rows ahead of j and m legs of it; -1: none -/
def upRow (f : Nat → TrainD) (P : Nat → RowD) (s t : Int) (j : Nat) (u : Int) : Nat → Int
  | 0 => u
  | m + 1 => match (if ((f j).leg m).to = s then leaveO f P j m else none) with
    | none => upRow f P s t j u m
    | some e => if t ≤ e ∧ (upRow f P s t j u m < 0 ∨ e < upRow f P s t j u m) then e else upRow f P s t j u m
def upAll (f : Nat → TrainD) (P : Nat → RowD) (s t : Int) : Nat → Int
  | 0 => -1
  | j + 1 => upRow f P s t j (upAll f P s t j) (P j).n
/-- what is known of the least one -/
structure UpIs (t u : Int) (E : Int → Prop) : Prop where
  none : u < 0 → ∀ e, E e → t ≤ e → False
  some : 0 ≤ u → E u ∧ t ≤ u ∧ ∀ e, E e → t ≤ e → u ≤ e
def LeftR (f : Nat → TrainD) (P : Nat → RowD) (s : Int) (j m : Nat) (e : Int) : Prop := ∃ k, k < m ∧ ((f j).leg k).to = s ∧ leaveO f P j k = some e
def LeftA (f : Nat → TrainD) (P : Nat → RowD) (s : Int) (j : Nat) (e : Int) : Prop := ∃ i, i < j ∧ LeftR f P s i (P i).n e
theorem upRow_is {f : Nat → TrainD} {P : Nat → RowD} {s t : Int} (ht : 0 ≤ t) {j : Nat} {u : Int} {E : Int → Prop} (h : UpIs t u E) : ∀ m, UpIs t (upRow f P s t j u m) (fun e => E e ∨ LeftR f P s j m e)
  | 0 => ⟨fun hu e he => by rcases he with he | ⟨k, hk, _⟩; (· exact h.none hu e he); (· omega), fun hu => ⟨Or.inl (h.some hu).1, (h.some hu).2.1, fun e he => by rcases he with he | ⟨k, hk, _⟩; (· exact (h.some hu).2.2 e he); (· omega)⟩⟩
  | m + 1 => by
    have ih := upRow_is (f := f) (P := P) (s := s) ht (j := j) h m
    have hspl : ∀ e, LeftR f P s j (m + 1) e ↔ LeftR f P s j m e ∨ (((f j).leg m).to = s ∧ leaveO f P j m = some e) := by
      intro e
      constructor
      · rintro ⟨k, hk, h1, h2⟩
        by_cases ek : k = m
        · subst ek; exact Or.inr ⟨h1, h2⟩
        · exact Or.inl ⟨k, by omega, h1, h2⟩
      · rintro (⟨k, hk, h1, h2⟩ | ⟨h1, h2⟩)
        · exact ⟨k, by omega, h1, h2⟩
        · exact ⟨m, by omega, h1, h2⟩
    have hskip : (∀ e, ¬ (((f j).leg m).to = s ∧ leaveO f P j m = some e)) → UpIs t (upRow f P s t j u m) (fun e => E e ∨ LeftR f P s j (m + 1) e) := by
      intro hn
      refine ⟨fun hu e he => ih.none hu e ?_, fun hu => ⟨?_, (ih.some hu).2.1, fun e he => (ih.some hu).2.2 e ?_⟩⟩
      · rcases he with he | he
        · exact Or.inl he
        · rcases (hspl e).1 he with h1 | h1
          · exact Or.inr h1
          · exact absurd h1 (hn e)
      · rcases (ih.some hu).1 with h1 | h1
        · exact Or.inl h1
        · exact Or.inr ((hspl _).2 (Or.inl h1))
      · rcases he with he | he
        · exact Or.inl he
        · rcases (hspl e).1 he with h1 | h1
          · exact Or.inr h1
          · exact absurd h1 (hn e)
    by_cases hs : ((f j).leg m).to = s
    · cases hl : leaveO f P j m with
      | none =>
        have e1 : upRow f P s t j u (m + 1) = upRow f P s t j u m := by simp only [upRow]; rw [if_pos hs, hl]
        rw [e1]
        exact hskip (fun e ⟨_, h2⟩ => by rw [hl] at h2; cases h2)
      | some e =>
        by_cases hc : t ≤ e ∧ (upRow f P s t j u m < 0 ∨ e < upRow f P s t j u m)
        · have e1 : upRow f P s t j u (m + 1) = e := by simp only [upRow]; rw [if_pos hs, hl]; simp only [if_pos hc]
          rw [e1]
          refine ⟨fun hu => by omega, fun _ => ⟨Or.inr ((hspl _).2 (Or.inr ⟨hs, hl⟩)), hc.1, fun e' he' ht' => ?_⟩⟩
          have hold : (E e' ∨ LeftR f P s j m e') → e ≤ e' := by
            intro h1
            rcases hc.2 with h2 | h2
            · exact (ih.none h2 e' h1 ht').elim
            · have := (ih.some (by omega)).2.2 e' h1 ht'; omega
          rcases he' with h1 | h1
          · exact hold (Or.inl h1)
          · rcases (hspl e').1 h1 with h2 | ⟨_, h2⟩
            · exact hold (Or.inr h2)
            · rw [hl] at h2; cases h2; exact Int.le_refl _
        · have e1 : upRow f P s t j u (m + 1) = upRow f P s t j u m := by simp only [upRow]; rw [if_pos hs, hl]; simp only [if_neg hc]
          rw [e1]
          refine ⟨fun hu e' he' ht' => ?_, fun hu => ⟨?_, (ih.some hu).2.1, fun e' he' ht' => ?_⟩⟩
          · rcases he' with h1 | h1
            · exact ih.none hu e' (Or.inl h1) ht'
            · rcases (hspl e').1 h1 with h2 | ⟨_, h2⟩
              · exact ih.none hu e' (Or.inr h2) ht'
              · rw [hl] at h2; cases h2; exact hc ⟨ht', Or.inl hu⟩
          · rcases (ih.some hu).1 with h1 | h1
            · exact Or.inl h1
            · exact Or.inr ((hspl _).2 (Or.inl h1))
          · rcases he' with h1 | h1
            · exact (ih.some hu).2.2 e' (Or.inl h1) ht'
            · rcases (hspl e').1 h1 with h2 | ⟨_, h2⟩
              · exact (ih.some hu).2.2 e' (Or.inr h2) ht'
              · rw [hl] at h2; cases h2
                rcases Int.lt_or_le e (upRow f P s t j u m) with h3 | h3
                · exact absurd ⟨ht', Or.inr h3⟩ hc
                · exact h3
    · have e1 : upRow f P s t j u (m + 1) = upRow f P s t j u m := by simp only [upRow]; rw [if_neg hs]
      rw [e1]
      exact hskip (fun e ⟨h1, _⟩ => hs h1)
theorem upAll_is {f : Nat → TrainD} {P : Nat → RowD} {s t : Int} (ht : 0 ≤ t) : ∀ j, UpIs t (upAll f P s t j) (LeftA f P s j)
  | 0 => ⟨fun _ e ⟨i, hi, _⟩ => by omega, fun h => by simp [upAll] at h⟩
  | j + 1 => by
    have h := upRow_is (f := f) (P := P) (s := s) ht (j := j) (upAll_is (f := f) (P := P) (s := s) ht j) (P j).n
    have e : ∀ x, LeftA f P s (j + 1) x ↔ LeftA f P s j x ∨ LeftR f P s j (P j).n x := by
      intro x
      constructor
      · rintro ⟨i, hi, h1⟩
        by_cases ei : i = j
        · subst ei; exact Or.inr h1
        · exact Or.inl ⟨i, by omega, h1⟩
      · rintro (⟨i, hi, h1⟩ | h1)
        · exact ⟨i, by omega, h1⟩
        · exact ⟨j, by omega, h1⟩
    simp only [upAll]
    exact ⟨fun hu x hx => h.none hu x ((e x).1 hx), fun hu => ⟨(e _).2 (h.some hu).1, (h.some hu).2.1, fun x hx => (h.some hu).2.2 x ((e x).1 hx)⟩⟩
/-- no one leaves from t on: full for ever -/
theorem full_ever {np : Nat} {g : Nat → Int} {f : Nat → TrainD} {P : Nat → RowD} {s t : Int} (ht : 0 ≤ t) (hu : upAll f P s t np < 0) (hf : fullAt np g f P s t) : ∀ t', t ≤ t' → fullAt np g f P s t' := by
  intro t' h
  unfold fullAt at *
  rw [thereAll_same h np (fun j hj k hk hs e he hte => ((upAll_is ht np).none hu e ⟨j, hj, k, hk, hs, he⟩ hte).elim)]
  exact hf
/-- until the first one leaves it is full -/
theorem full_until {np : Nat} {g : Nat → Int} {f : Nat → TrainD} {P : Nat → RowD} {s t : Int} (ht : 0 ≤ t) (hu : 0 ≤ upAll f P s t np) (hf : fullAt np g f P s t) : ∀ t', t ≤ t' → t' ≤ upAll f P s t np → fullAt np g f P s t' := by
  intro t' h h'
  unfold fullAt at *
  rw [thereAll_same h np (fun j hj k hk hs e he hte => by have := ((upAll_is ht np).some hu).2.2 e ⟨j, hj, k, hk, hs, he⟩ hte; omega)]
  exact hf
end Go.Proofs.YtelickcfodcmaaaGreatDoor
