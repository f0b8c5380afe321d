/-
  The model's word on how many trains have a station's tracks by what is placed.
  The model's next leg: from when on it can begin.
  The model's record and its rows, as they lie; one more leg in a row.
  The model's record of what is placed, made anew.
-/
import Derived.Test.YtnjaegeapcijpaaDoorGPl
import Derived.Test.YtnjaegeapcijpaaDoorSpecQ
import Derived.Test.YtnjaegeapcijpaaDoorApp
import Derived.Maps.AppendAt
namespace Go.Proofs.YtnjaegeapcijpaaDoor
open Go.RowKit

/-- the model's own record of what is placed, behind a pointer -/
structure L2 (W : World) (b : Nat) (a : Option Addr) (len cap : Nat) (gap : Int) (a' : Option Addr) (np cap' : Nat) (c : Option Addr) (nc : Nat) (last : Int) : Prop where
  c0 : W.cell? ⟨b, 0, none⟩ = some (.slice a len cap)
  c1 : W.cell? ⟨b, 1, none⟩ = some (.int .i64 gap)
  c2 : W.cell? ⟨b, 2, none⟩ = some (.slice a' np cap')
  c3 : W.cell? ⟨b, 3, none⟩ = some (.slice c np nc)
  c4 : W.cell? ⟨b, 4, none⟩ = some (.int .i64 last)
theorem L2.later {W W' : World} {b : Nat} {a : Option Addr} {len cap : Nat} {gap : Int} {a' : Option Addr} {np cap' : Nat} {c : Option Addr} {nc : Nat} {last : Int} (h : L2 W b a len cap gap a' np cap' c nc last) (hB : Below W.heap.size W W') : L2 W' b a len cap gap a' np cap' c nc last :=
  ⟨cellLater hB h.c0, cellLater hB h.c1, cellLater hB h.c2, cellLater hB h.c3, cellLater hB h.c4⟩

theorem hereB_no {f : Nat → TrainD} {P : Nat → RowD} {s t : Int} {j m : Nat} (h : ((f j).leg m).to ≠ s) : hereB f P s t j m = false := by unfold hereB; simp [h]
theorem hereB_next {f : Nat → TrainD} {P : Nat → RowD} {s t : Int} {j m : Nat} (h : ((f j).leg m).to = s) (hm : m + 1 < (P j).n) : hereB f P s t j m = decide (t ≤ (P j).s (m + 1)) := by unfold hereB leaveO; simp [h, hm]
theorem hereB_ever {f : Nat → TrainD} {P : Nat → RowD} {s t : Int} {j m : Nat} (h : ((f j).leg m).to = s) (hm : ¬ m + 1 < (P j).n) (hn : m + 1 < (f j).nl) : hereB f P s t j m = true := by unfold hereB leaveO; simp [h, hm, hn]
theorem hereB_end {f : Nat → TrainD} {P : Nat → RowD} {s t : Int} {j m : Nat} (h : ((f j).leg m).to = s) (hm : ¬ m + 1 < (P j).n) (hn : ¬ m + 1 < (f j).nl) : hereB f P s t j m = decide (t ≤ (P j).s m + ((f j).leg m).run) := by unfold hereB leaveO; simp [h, hm, hn]

set_option maxRecDepth 20000 in
set_option maxHeartbeats 8000000 in
theorem there_any (b : Nat) (a : Option Addr) (len cap : Nat) (gap : Int) (a' : Option Addr) (np cap' : Nat) (f : Nat → TrainD) (c : Option Addr) (nc : Nat) (P : Nat → RowD) (last s t : Int) (w : World) (hR : RightL len np f) (hQ : PartP np f P last)
    (hL : L2 w b a len cap gap a' np cap' c nc last) (hT : IsTrains 0 w.heap.size w a' np f) (hP : IsRows 0 w.heap.size w c np P) :
    Calls Tryd.prog 39 #[.pointer (some ⟨b, 0, none⟩), .int .i64 s, .int .i64 t] w fun e w' => e = .returned (.int .i64 (thereAll f P s t np : Nat)) ∧ Below w.heap.size w w' := by
  have htr := hR.tr
  have hn10 : ∀ j, j < np → (P j).n ≤ 10 := fun j hj => Nat.le_trans (hQ.le j hj) (hR.train j hj).nl
  have hle := fun j hj => thereAll_le (f := f) (s := s) (t := t) hn10 j hj
  have x2 := hL.c2
  have x3 := hL.c3
  go_enter Tryd.func39, Tryd.ntmps39
  go_wp2
  go_loopw [7, 18] (fun cc jj wr => ∃ (j : Nat), j ≤ np ∧ jj = .int .i64 j ∧ cc = .int .i64 (thereAll f P s t j : Nat) ∧ Below w.heap.size w wr) (fun _ jj _ => np - (intOf jj).toNat)
  case atStart => exact ⟨0, Nat.zero_le _, rfl, rfl, Below.refl _ _⟩
  case round =>
    obtain ⟨j, hj, rfl, rfl, hB⟩ := hrel
    by_cases hlt : j < np
    · have hj' : (j : Int) < (np : Int) := by omega
      have hj0 : (0 : Int) ≤ (j : Int) := by omega
      have hRj := hR.train j hlt
      have hnlj := hRj.nl
      have hnj := hQ.le j hlt
      have hlej := hle j hj
      obtain ⟨bt, ot, la, lc, rfl, _, hbt, t0, t1, t2, t3, t4, hlg, _⟩ := hT j hlt
      obtain ⟨bp, op, lp, lpc, rfl, _, hbp, p0, hin, _⟩ := hP j hlt
      have y2 := cellLater hB x2
      have d0 := cellLater hB t0
      have d1 := cellLater hB t1
      have d2 := cellLater hB t2
      have d3 := cellLater hB t3
      have d4 := cellLater hB t4
      have p1 := cellLater hB p0
      have hA1 := b1 wr (.cells #[.int .i64 (f j).frm, .int .i64 (f j).ready, .int .i64 (f j).due, .int .i64 (f j).weight, .slice la (f j).nl lc] 71)
      have hTb := Go.heap_alloc_new wr (.cells #[.int .i64 (f j).frm, .int .i64 (f j).ready, .int .i64 (f j).due, .int .i64 (f j).weight, .slice la (f j).nl lc] 71)
      go_wp2
      refine nameW fun V hV => ?_
      rw [← hV] at hA1 hTb
      have e4 := cell_of_row V wr.heap.size 4 _ _ _ hTb
      simp at e4
      have hBV := Below.join hB (Nat.le_refl _) hA1
      generalize wr.heap.size = pb at e4 ⊢
      clear hV hTb y2 d0 d1 d2 d3 d4 p1 hA1 hB t0 t1 t2 t3 t4
      go_loopw [7, 33] (fun cc mm wr2 => ∃ (m : Nat), m ≤ (P j).n ∧ mm = .int .i64 m ∧ cc = .int .i64 ((thereAll f P s t j + thereRow f P s t j m : Nat) : Int) ∧ Below V.heap.size V wr2) (fun _ mm _ => (P j).n - (intOf mm).toNat)
      case atStart => exact ⟨0, Nat.zero_le _, rfl, rfl, Below.refl _ _⟩
      case round =>
        obtain ⟨m, hm, rfl, rfl, hB2⟩ := hrel
        by_cases hmlt : m < (P j).n
        · have hm' : (m : Int) < ((P j).n : Int) := by omega
          have hm0 : (0 : Int) ≤ (m : Int) := by omega
          have hml : (m : Int) < ((f j).nl : Int) := by omega
          have hBw := Below.join hBV (Nat.le_refl _) hB2
          obtain ⟨bl, ol, rfl, _, hbl, g0, g1, g2⟩ := hlg m (by omega)
          obtain ⟨bi, oi, rfl, _, hbi, q0⟩ := hin m hmlt
          replace g0 := cellLater hBw g0
          replace g1 := cellLater hBw g1
          replace q0 := cellLater hBw q0
          have e4' := cellLater hB2 e4
          have hrle := thereRow_le f P s t j m
          obtain ⟨s0, s1⟩ := hQ.at0 j hlt m hmlt
          have hl1 := hQ.l1
          obtain ⟨r0, r1, r2, r3⟩ := hRj.leg m (by omega)
          have hstep : thereAll f P s t j + thereRow f P s t j (m + 1) = thereAll f P s t j + thereRow f P s t j m + (if hereB f P s t j m = true then 1 else 0) := by simp only [thereRow]; omega
          have hst : Hid _ := hstep
          clear hstep
          have hNb : thereAll f P s t j + thereRow f P s t j m ≤ 60 := by omega
          generalize thereAll f P s t j + thereRow f P s t j m = N at hst hNb ⊢
          by_cases hs : ((f j).leg m).to = s
          · have hs' : (((f j).leg m).to != s) = false := by simpa using hs
            by_cases hm1 : m + 1 < (P j).n
            · have hm1' : (m : Int) + 1 < ((P j).n : Int) := by omega
              have hn1 : (0 : Int) ≤ (m : Int) + 1 := by omega
              have hn2 : ((m : Int) + 1).toNat = m + 1 := by omega
              have hw1 : IntKind.i64.wrap ((m : Int) + 1) = (m : Int) + 1 := by rw [IntKind.wrap_i64]; omega
              obtain ⟨bi', oi', ei, _, _, q1⟩ := hin (m + 1) hm1
              simp only [Option.some.injEq, Addr.mk.injEq] at ei
              obtain ⟨rfl, rfl, _⟩ := ei
              replace q1 := cellLater hBw q1
              by_cases ht : t ≤ (P j).s (m + 1)
              · have hh : Hid (hereB f P s t j m = true) := by unfold Hid; rw [hereB_next hs hm1]; exact decide_eq_true ht
                go_wp2
                go_roundw
                case rel => exact ⟨m + 1, by omega, by go_num, by rw [hst.out, hh.out]; go_num, hB2⟩
                case measure => simp [intOf]; omega
              · have hh : Hid (hereB f P s t j m = false) := by unfold Hid; rw [hereB_next hs hm1]; exact decide_eq_false ht
                go_wp2
                go_roundw
                case rel => exact ⟨m + 1, by omega, by go_num, by rw [hst.out, hh.out]; simp, hB2⟩
                case measure => simp [intOf]; omega
            · have hm1' : ¬ ((m : Int) + 1 < ((P j).n : Int)) := by omega
              by_cases hmn : m + 1 < (f j).nl
              · have hmn' : (m : Int) + 1 < ((f j).nl : Int) := by omega
                have hmd : decide ((m : Int) + 1 < ((f j).nl : Int)) = true := decide_eq_true hmn'
                have hh : Hid _ := hereB_ever (t := t) hs hm1 hmn
                go_wp2
                go_quiet (fail)
                go_wp2
                go_roundw
                case rel => exact ⟨m + 1, by omega, by go_num, by rw [hst.out, hh.out]; go_num, Below.join hB2 (Nat.le_refl _) (below_drewN (Below.refl _ _) _)⟩
                case measure => simp [intOf]; omega
              · have hmn' : ¬ ((m : Int) + 1 < ((f j).nl : Int)) := by omega
                have hmd : decide ((m : Int) + 1 < ((f j).nl : Int)) = false := decide_eq_false hmn'
                have hws : IntKind.i64.wrap ((P j).s m + ((f j).leg m).run) = (P j).s m + ((f j).leg m).run := by rw [IntKind.wrap_i64]; omega
                by_cases ht : t ≤ (P j).s m + ((f j).leg m).run
                · have hh : Hid (hereB f P s t j m = true) := by unfold Hid; rw [hereB_end hs hm1 hmn]; exact decide_eq_true ht
                  go_wp2
                  go_quiet (fail)
                  go_wp2
                  go_roundw
                  case rel => exact ⟨m + 1, by omega, by go_num, by rw [hst.out, hh.out]; go_num, Below.join hB2 (Nat.le_refl _) (below_drewN (Below.refl _ _) _)⟩
                  case measure => simp [intOf]; omega
                · have hh : Hid (hereB f P s t j m = false) := by unfold Hid; rw [hereB_end hs hm1 hmn]; exact decide_eq_false ht
                  go_wp2
                  go_quiet (fail)
                  go_wp2
                  go_roundw
                  case rel => exact ⟨m + 1, by omega, by go_num, by rw [hst.out, hh.out]; simp, Below.join hB2 (Nat.le_refl _) (below_drewN (Below.refl _ _) _)⟩
                  case measure => simp [intOf]; omega
          · have hs' : (((f j).leg m).to != s) = true := by simpa using hs
            have hh : Hid _ := hereB_no (P := P) (t := t) hs
            go_wp2
            go_roundw
            case rel => exact ⟨m + 1, by omega, by go_num, by rw [hst.out, hh.out]; simp, hB2⟩
            case measure => simp [intOf]; omega
        · obtain rfl : m = (P j).n := by omega
          go_wp2
          go_roundw
          case rel => exact ⟨j + 1, by omega, by go_num, by simp only [thereAll], Below.join hBV (Nat.le_refl _) hB2⟩
          case measure => simp [intOf]; omega
    · obtain rfl : j = np := by omega
      go_wp2
      go_ret
      exact ⟨rfl, hB⟩
end Go.Proofs.YtnjaegeapcijpaaDoor

namespace Go.Proofs.YtnjaegeapcijpaaDoor
open Go.RowKit

set_option maxHeartbeats 2000000 in
theorem l2readyP_any (a : Option Addr) (len cap : Nat) (gap : Int) (a' : Option Addr) (np cap' : Nat) (f : Nat → TrainD) (c : Option Addr) (nc : Nat) (P : Nat → RowD) (last : Int) (i : Nat) (w : World)
    (hR : RightL len np f) (hQ : PartP np f P last) (hi : i < np) (hk : (P i).n < (f i).nl) (hT : IsTrains 0 w.heap.size w a' np f) (hP : IsRows 0 w.heap.size w c np P) :
    Calls Tryd.prog 37 #[.agg #[.slice a len cap, .int .i64 gap, .slice a' np cap'], .agg #[.slice c np nc], .int .i64 i, .int .i64 (P i).n] w fun e w' => e = .returned (.int .i64 (readyOf f P i (P i).n)) ∧ Below w.heap.size w w' := by
  have htr := hR.tr
  have hRi := hR.train i hi
  have hr0 := hRi.r0
  have hr1 := hRi.r1
  have hnl := hRi.nl
  have hi' : (i : Int) < (np : Int) := by omega
  have hat := hQ.at0 i hi
  have hl1 := hQ.l1
  obtain ⟨b, off, la, lc, rfl, _, hb, t0, t1, t2, t3, t4, hlg, _⟩ := hT i hi
  obtain ⟨bp, op, lp, lpc, rfl, _, hbp, p0, hin, _⟩ := hP i hi
  generalize hpn : (P i).n = n at *
  cases n with
  | zero =>
    obtain ⟨l0, l1, l2, l3⟩ := hRi.leg 0 hk
    obtain ⟨bl, ol, rfl, _, hbl, g0, g1, g2⟩ := hlg 0 hk
    have hk0 : (0 : Int) < ((f i).nl : Int) := by omega
    simp only [Nat.zero_mul, Nat.add_zero] at g0 g1 g2
    go_enter Tryd.func37, Tryd.ntmps37
    go_wp2
    refine nameW fun W3 hW3 => ?_
    have hB3 : Below w.heap.size w W3 := hW3 ▸ b3 _ _ _ _
    have x1 : W3.cell? ⟨w.heap.size + 1 + 1, 1, none⟩ = some (.int .i64 (f i).ready) := by rw [hW3, World.cell?_alloc_at _ _ _ _ (by simp)]; rfl
    have x4 : W3.cell? ⟨w.heap.size + 1 + 1, 4, none⟩ = some (.slice (some ⟨bl, ol, none⟩) (f i).nl lc) := by rw [hW3, World.cell?_alloc_at _ _ _ _ (by simp)]; rfl
    replace g2 := cellLater hB3 g2
    clear hW3
    go_region_held3 (fun w' => w'.cell? ⟨w.heap.size + 1 + 1, 1, none⟩ = some (.int .i64 (f i).ready) ∧ w'.cell? ⟨w.heap.size + 1 + 1, 4, none⟩ = some (.slice (some ⟨bl, ol, none⟩) (f i).nl lc) ∧ w'.cell? ⟨bl, ol + 2, none⟩ = some (.int .i64 ((f i).leg 0).stay)) (go_keep) (fail)
    go_wp2
    go_ret
    exact ⟨ret_int (by rw [IntKind.wrap_i64]; simp only [readyOf]; omega), hB3.drew⟩
  | succ k =>
    have e0 : ((k + 1 : Nat) : Int) = (k : Int) + 1 := by omega
    rw [e0]
    have hz : ((k : Int) + 1 == 0) = false := by simp; omega
    obtain ⟨l0, l1, l2, l3⟩ := hRi.leg k (by omega)
    obtain ⟨l4, l5, l6, l7⟩ := hRi.leg (k + 1) hk
    obtain ⟨s0, s1⟩ := hat k (by omega)
    obtain ⟨bl, ol, rfl, _, hbl, g0, g1, g2⟩ := hlg k (by omega)
    obtain ⟨bl', ol', el, _, _, g0', g1', g2'⟩ := hlg (k + 1) hk
    simp only [Option.some.injEq, Addr.mk.injEq] at el
    obtain ⟨rfl, rfl, _⟩ := el
    obtain ⟨bi, oi, rfl, _, hbi, q0⟩ := hin k (by omega)
    have hk1 : (k : Int) + 1 < ((f i).nl : Int) := by omega
    have hk2 : (k : Int) < ((k + 1 : Nat) : Int) := by omega
    have hk3 : (k : Int) < ((f i).nl : Int) := by omega
    have hk4 : (k : Int) < (k : Int) + 1 := by omega
    have hw1 : IntKind.i64.wrap ((k : Int) + 1 - 1) = (k : Int) := by rw [IntKind.wrap_i64]; omega
    have hw2 : IntKind.i64.wrap (k : Int) = (k : Int) := by rw [IntKind.wrap_i64]; omega
    have hn0 : (0 : Int) ≤ (k : Int) := by omega
    have hn1 : (0 : Int) ≤ (k : Int) + 1 := by omega
    have hn2 : ((k : Int) + 1).toNat = k + 1 := by omega
    go_enter Tryd.func37, Tryd.ntmps37
    go_wp2
    refine nameW fun W3 hW3 => ?_
    have hB3 : Below w.heap.size w W3 := hW3 ▸ b3 _ _ _ _
    have x0 : W3.cell? ⟨w.heap.size + 1, 0, none⟩ = some (.slice (some ⟨bp, op, none⟩) np nc) := by rw [hW3, World.cell?_alloc_lt _ _ ⟨w.heap.size + 1, 0, none⟩ (by simp), World.cell?_alloc_at _ _ _ _ (by simp)]; rfl
    have x4 : W3.cell? ⟨w.heap.size + 1 + 1, 4, none⟩ = some (.slice (some ⟨bl, ol, none⟩) (f i).nl lc) := by rw [hW3, World.cell?_alloc_at _ _ _ _ (by simp)]; rfl
    replace p0 := cellLater hB3 p0
    replace q0 := cellLater hB3 q0
    replace g1 := cellLater hB3 g1
    replace g2' := cellLater hB3 g2'
    clear hW3
    go_region_held3 (fun w' => w'.cell? ⟨w.heap.size + 1, 0, none⟩ = some (.slice (some ⟨bp, op, none⟩) np nc) ∧ w'.cell? ⟨bp, op + i, none⟩ = some (.slice (some ⟨bi, oi, none⟩) (k + 1) lpc) ∧ w'.cell? ⟨bi, oi + k, none⟩ = some (.int .i64 ((P i).s k)) ∧ w'.cell? ⟨w.heap.size + 1 + 1, 4, none⟩ = some (.slice (some ⟨bl, ol, none⟩) (f i).nl lc) ∧ w'.cell? ⟨bl, ol + k * 3 + 1, none⟩ = some (.int .i64 ((f i).leg k).run) ∧ w'.cell? ⟨bl, ol + (k + 1) * 3 + 2, none⟩ = some (.int .i64 ((f i).leg (k + 1)).stay)) (go_keep) (fail)
    go_wp2
    go_ret
    exact ⟨ret_int (by rw [IntKind.wrap_i64, IntKind.wrap_i64]; simp only [readyOf]; omega), hB3.drew⟩

/-- the least time from t on at which one leaves, among the rows ahead of j and m legs of it; -1: none -/
def upRow (f : Nat → TrainD) (P : Nat → RowD) (s t : Int) (j : Nat) (u : Int) : Nat → Int
  | 0 => u
  | m + 1 => match (if ((f j).leg m).to = s then leaveO f P j m else none) with
    | none => upRow f P s t j u m
    | some e => if t ≤ e ∧ (upRow f P s t j u m < 0 ∨ e < upRow f P s t j u m) then e else upRow f P s t j u m
def upAll (f : Nat → TrainD) (P : Nat → RowD) (s t : Int) : Nat → Int
  | 0 => -1
  | j + 1 => upRow f P s t j (upAll f P s t j) (P j).n
/-- what is known of the least one -/
structure UpIs (t u : Int) (E : Int → Prop) : Prop where
  none : u < 0 → ∀ e, E e → t ≤ e → False
  some : 0 ≤ u → E u ∧ t ≤ u ∧ ∀ e, E e → t ≤ e → u ≤ e
def LeftR (f : Nat → TrainD) (P : Nat → RowD) (s : Int) (j m : Nat) (e : Int) : Prop := ∃ k, k < m ∧ ((f j).leg k).to = s ∧ leaveO f P j k = some e
def LeftA (f : Nat → TrainD) (P : Nat → RowD) (s : Int) (j : Nat) (e : Int) : Prop := ∃ i, i < j ∧ LeftR f P s i (P i).n e
theorem upRow_is {f : Nat → TrainD} {P : Nat → RowD} {s t : Int} (ht : 0 ≤ t) {j : Nat} {u : Int} {E : Int → Prop} (h : UpIs t u E) : ∀ m, UpIs t (upRow f P s t j u m) (fun e => E e ∨ LeftR f P s j m e)
  | 0 => ⟨fun hu e he => by rcases he with he | ⟨k, hk, _⟩; (· exact h.none hu e he); (· omega), fun hu => ⟨Or.inl (h.some hu).1, (h.some hu).2.1, fun e he => by rcases he with he | ⟨k, hk, _⟩; (· exact (h.some hu).2.2 e he); (· omega)⟩⟩
  | m + 1 => by
    have ih := upRow_is (f := f) (P := P) (s := s) ht (j := j) h m
    have hspl : ∀ e, LeftR f P s j (m + 1) e ↔ LeftR f P s j m e ∨ (((f j).leg m).to = s ∧ leaveO f P j m = some e) := by
      intro e
      constructor
      · rintro ⟨k, hk, h1, h2⟩
        by_cases ek : k = m
        · subst ek; exact Or.inr ⟨h1, h2⟩
        · exact Or.inl ⟨k, by omega, h1, h2⟩
      · rintro (⟨k, hk, h1, h2⟩ | ⟨h1, h2⟩)
        · exact ⟨k, by omega, h1, h2⟩
        · exact ⟨m, by omega, h1, h2⟩
    have hskip : (∀ e, ¬ (((f j).leg m).to = s ∧ leaveO f P j m = some e)) → UpIs t (upRow f P s t j u m) (fun e => E e ∨ LeftR f P s j (m + 1) e) := by
      intro hn
      refine ⟨fun hu e he => ih.none hu e ?_, fun hu => ⟨?_, (ih.some hu).2.1, fun e he => (ih.some hu).2.2 e ?_⟩⟩
      · rcases he with he | he
        · exact Or.inl he
        · rcases (hspl e).1 he with h1 | h1
          · exact Or.inr h1
          · exact absurd h1 (hn e)
      · rcases (ih.some hu).1 with h1 | h1
        · exact Or.inl h1
        · exact Or.inr ((hspl _).2 (Or.inl h1))
      · rcases he with he | he
        · exact Or.inl he
        · rcases (hspl e).1 he with h1 | h1
          · exact Or.inr h1
          · exact absurd h1 (hn e)
    by_cases hs : ((f j).leg m).to = s
    · cases hl : leaveO f P j m with
      | none =>
        have e1 : upRow f P s t j u (m + 1) = upRow f P s t j u m := by simp only [upRow]; rw [if_pos hs, hl]
        rw [e1]
        exact hskip (fun e ⟨_, h2⟩ => by rw [hl] at h2; cases h2)
      | some e =>
        by_cases hc : t ≤ e ∧ (upRow f P s t j u m < 0 ∨ e < upRow f P s t j u m)
        · have e1 : upRow f P s t j u (m + 1) = e := by simp only [upRow]; rw [if_pos hs, hl]; simp only [if_pos hc]
          rw [e1]
          refine ⟨fun hu => by omega, fun _ => ⟨Or.inr ((hspl _).2 (Or.inr ⟨hs, hl⟩)), hc.1, fun e' he' ht' => ?_⟩⟩
          have hold : (E e' ∨ LeftR f P s j m e') → e ≤ e' := by
            intro h1
            rcases hc.2 with h2 | h2
            · exact (ih.none h2 e' h1 ht').elim
            · have := (ih.some (by omega)).2.2 e' h1 ht'; omega
          rcases he' with h1 | h1
          · exact hold (Or.inl h1)
          · rcases (hspl e').1 h1 with h2 | ⟨_, h2⟩
            · exact hold (Or.inr h2)
            · rw [hl] at h2; cases h2; exact Int.le_refl _
        · have e1 : upRow f P s t j u (m + 1) = upRow f P s t j u m := by simp only [upRow]; rw [if_pos hs, hl]; simp only [if_neg hc]
          rw [e1]
          refine ⟨fun hu e' he' ht' => ?_, fun hu => ⟨?_, (ih.some hu).2.1, fun e' he' ht' => ?_⟩⟩
          · rcases he' with h1 | h1
            · exact ih.none hu e' (Or.inl h1) ht'
            · rcases (hspl e').1 h1 with h2 | ⟨_, h2⟩
              · exact ih.none hu e' (Or.inr h2) ht'
              · rw [hl] at h2; cases h2; exact hc ⟨ht', Or.inl hu⟩
          · rcases (ih.some hu).1 with h1 | h1
            · exact Or.inl h1
            · exact Or.inr ((hspl _).2 (Or.inl h1))
          · rcases he' with h1 | h1
            · exact (ih.some hu).2.2 e' (Or.inl h1) ht'
            · rcases (hspl e').1 h1 with h2 | ⟨_, h2⟩
              · exact (ih.some hu).2.2 e' (Or.inr h2) ht'
              · rw [hl] at h2; cases h2
                rcases Int.lt_or_le e (upRow f P s t j u m) with h3 | h3
                · exact absurd ⟨ht', Or.inr h3⟩ hc
                · exact h3
    · have e1 : upRow f P s t j u (m + 1) = upRow f P s t j u m := by simp only [upRow]; rw [if_neg hs]
      rw [e1]
      exact hskip (fun e ⟨h1, _⟩ => hs h1)
theorem upAll_is {f : Nat → TrainD} {P : Nat → RowD} {s t : Int} (ht : 0 ≤ t) : ∀ j, UpIs t (upAll f P s t j) (LeftA f P s j)
  | 0 => ⟨fun _ e ⟨i, hi, _⟩ => by omega, fun h => by simp [upAll] at h⟩
  | j + 1 => by
    have h := upRow_is (f := f) (P := P) (s := s) ht (j := j) (upAll_is (f := f) (P := P) (s := s) ht j) (P j).n
    have e : ∀ x, LeftA f P s (j + 1) x ↔ LeftA f P s j x ∨ LeftR f P s j (P j).n x := by
      intro x
      constructor
      · rintro ⟨i, hi, h1⟩
        by_cases ei : i = j
        · subst ei; exact Or.inr h1
        · exact Or.inl ⟨i, by omega, h1⟩
      · rintro (⟨i, hi, h1⟩ | h1)
        · exact ⟨i, by omega, h1⟩
        · exact ⟨j, by omega, h1⟩
    simp only [upAll]
    exact ⟨fun hu x hx => h.none hu x ((e x).1 hx), fun hu => ⟨(e _).2 (h.some hu).1, (h.some hu).2.1, fun x hx => (h.some hu).2.2 x ((e x).1 hx)⟩⟩
/-- no one leaves from t on: full for ever -/
theorem full_ever {np : Nat} {g : Nat → Int} {f : Nat → TrainD} {P : Nat → RowD} {s t : Int} (ht : 0 ≤ t) (hu : upAll f P s t np < 0) (hf : fullAt np g f P s t) : ∀ t', t ≤ t' → fullAt np g f P s t' := by
  intro t' h
  unfold fullAt at *
  rw [thereAll_same h np (fun j hj k hk hs e he hte => ((upAll_is ht np).none hu e ⟨j, hj, k, hk, hs, he⟩ hte).elim)]
  exact hf
/-- until the first one leaves it is full -/
theorem full_until {np : Nat} {g : Nat → Int} {f : Nat → TrainD} {P : Nat → RowD} {s t : Int} (ht : 0 ≤ t) (hu : 0 ≤ upAll f P s t np) (hf : fullAt np g f P s t) : ∀ t', t ≤ t' → t' ≤ upAll f P s t np → fullAt np g f P s t' := by
  intro t' h h'
  unfold fullAt at *
  rw [thereAll_same h np (fun j hj k hk hs e he hte => by have := ((upAll_is ht np).some hu).2.2 e ⟨j, hj, k, hk, hs, he⟩ hte; omega)]
  exact hf
end Go.Proofs.YtnjaegeapcijpaaDoor

namespace Go.Proofs.YtnjaegeapcijpaaDoor
open Go.RowKit

def rowCells (r : RowD) : List Value := (List.range r.n).map fun m => .int .i64 (r.s m)
theorem rowCells_len (r : RowD) : (rowCells r).length = r.n := by simp [rowCells]
theorem rowCells_at (r : RowD) (m : Nat) (h : m < r.n) : (rowCells r)[m]? = some (.int .i64 (r.s m)) := by simp [rowCells, h]
/-- the model's record, its rows among the call's own blocks -/
structure LP (B0 : Nat) (W : World) (b gR : Nat) (a : Option Addr) (len cap : Nat) (gap : Int) (a' : Option Addr) (np cap' : Nat) (c : Option Addr) (nc : Nat) (v : Nat → Value) (P : Nat → RowD) (last : Int) : Prop where
  l2 : L2 W b a len cap gap a' np cap' c nc last
  z4 : W.frozen? ⟨b, 4, none⟩ = false
  row : ∀ j, j < np → c = some ⟨gR, 0, none⟩ ∧ W.cell? ⟨gR, j, none⟩ = some (v j) ∧ W.frozen? ⟨gR, j, none⟩ = false
  own : ∀ j, j < np → W.ownsRow B0 3 1 (v j) (P j).n (rowCells (P j))
  apart : ∀ j k, j < np → k < np → j ≠ k → Apart (v j) (v k)
  off : ∀ j, j < np → (v j).ownBlock ≠ some b ∧ (v j).ownBlock ≠ some gR
  ne : b ≠ gR
  lb : B0 ≤ b
  lg : B0 ≤ gR
theorem LP.rows {B0 : Nat} {W : World} {b gR : Nat} {a : Option Addr} {len cap : Nat} {gap : Int} {a' : Option Addr} {np cap' : Nat} {c : Option Addr} {nc : Nat} {v : Nat → Value} {P : Nat → RowD} {last : Int} (h : LP B0 W b gR a len cap gap a' np cap' c nc v P last) (hn : ∀ j, j < np → (P j).n ≤ 10) : IsRows 0 W.heap.size W c np P := fun j hj => by
  obtain ⟨e, hc, _⟩ := h.row j hj
  have ho := h.own j hj
  have hml : (P j).n ≤ maxLen := by have := hn j hj; unfold maxLen; omega
  rcases ho.2 with ⟨e0, h0⟩ | ⟨g, cp, cur, e0, hb, hg, _⟩
  · exact ⟨gR, 0, none, 0, e, Nat.zero_le _, ltCell hc, by rw [Nat.zero_add, hc, e0, h0], fun m hm => by omega, hml⟩
  · refine ⟨gR, 0, some ⟨g, 0, none⟩, cp, e, Nat.zero_le _, ltCell hc, by rw [Nat.zero_add, hc, e0], fun m hm => ?_, hml⟩
    rw [e0] at ho
    exact ⟨g, 0, rfl, Nat.zero_le _, (ho.lt g rfl).2, by rw [Nat.zero_add, ho.cellAt m (by omega)]; exact rowCells_at _ _ hm⟩
theorem LP.later {B0 : Nat} {W W' : World} {b gR : Nat} {a : Option Addr} {len cap : Nat} {gap : Int} {a' : Option Addr} {np cap' : Nat} {c : Option Addr} {nc : Nat} {v : Nat → Value} {P : Nat → RowD} {last : Int} (h : LP B0 W b gR a len cap gap a' np cap' c nc v P last) (hB : Below W.heap.size W W') : LP B0 W' b gR a len cap gap a' np cap' c nc v P last :=
  ⟨h.l2.later hB, (hB.frozen (ltCell h.l2.c4)).trans h.z4, fun j hj => ⟨(h.row j hj).1, cellLater hB (h.row j hj).2.1, (hB.frozen (ltCell (h.row j hj).2.1)).trans (h.row j hj).2.2⟩, fun j hj => ownsRow_later (h.own j hj) hB, h.apart, h.off, h.ne, h.lb, h.lg⟩

theorem rowCells_more (P : Nat → RowD) (i : Nat) (T : Int) : rowCells (moreP P i T i) = rowCells (P i) ++ [.int .i64 T] := by
  unfold rowCells moreP
  rw [if_pos rfl]
  simp only [List.range_succ, List.map_append, List.map_cons, List.map_nil, if_pos]
  congr 1
  apply List.map_congr_left
  intro m hm
  have := List.mem_range.1 hm
  rw [if_neg (by omega)]
theorem LP.put {B0 : Nat} {w A W1 : World} {b gR : Nat} {a : Option Addr} {len cap : Nat} {gap : Int} {a' : Option Addr} {np cap' : Nat} {c : Option Addr} {nc : Nat} {v : Nat → Value} {P : Nat → RowD} {last : Int} (h : LP B0 w b gR a len cap gap a' np cap' c nc v P last) (hA : Below w.heap.size w A) {i : Nat} (hi : i < np) {v' : Value} {T : Int}
    (hown1 : W1.ownsRow B0 3 1 v' ((P i).n + 1) (rowCells (P i) ++ [.int .i64 T])) (hgr : A.grownBy W1 (v i).ownBlock) (hloc : v'.ownBlock = (v i).ownBlock ∨ v'.ownBlock = some A.heap.size) :
    LP B0 ((W1.setCell ⟨gR, i, none⟩ v').setCell ⟨b, 4, none⟩ (.int .i64 T)) b gR a len cap gap a' np cap' c nc (fun j => if j = i then v' else v j) (moreP P i T) T ∧ Below B0 w ((W1.setCell ⟨gR, i, none⟩ v').setCell ⟨b, 4, none⟩ (.int .i64 T)) := by
  have hL := h.later hA
  have lb : b < A.heap.size := ltCell hL.l2.c0
  have lg : gR < A.heap.size := ltCell (hL.row i hi).2.1
  have hsm : ∀ k, k < A.heap.size → some k ≠ (v i).ownBlock → W1.heap[k]? = A.heap[k]? := fun k hk hn => hgr.block k hk hn
  have hbk := hsm b lb (fun e => (hL.off i hi).1 e.symm)
  have hgk := hsm gR lg (fun e => (hL.off i hi).2 e.symm)
  have cb : ∀ o u, A.cell? ⟨b, o, none⟩ = some u → W1.cell? ⟨b, o, none⟩ = some u := fun o u hu => (World.cell?_of_block (w := A) (w' := W1) (a := ⟨b, o, none⟩) hbk).trans hu
  have cg : ∀ o u, A.cell? ⟨gR, o, none⟩ = some u → W1.cell? ⟨gR, o, none⟩ = some u := fun o u hu => (World.cell?_of_block (w := A) (w' := W1) (a := ⟨gR, o, none⟩) hgk).trans hu
  have sb : ∀ o u, W1.cell? ⟨b, o, none⟩ = some u → (W1.setCell ⟨gR, i, none⟩ v').cell? ⟨b, o, none⟩ = some u := fun o u hu => (World.cell?_setCell_other _ _ _ _ (by intro e; cases e; exact hL.ne rfl)).trans hu
  have tb : ∀ o u, o ≠ 4 → W1.cell? ⟨b, o, none⟩ = some u → ((W1.setCell ⟨gR, i, none⟩ v').setCell ⟨b, 4, none⟩ (.int .i64 T)).cell? ⟨b, o, none⟩ = some u := fun o u ho hu => (cell_set_ne (fun e => ho e.symm)).trans (sb o u hu)
  have hvb : ∀ k, v'.ownBlock = some k → k ≠ b ∧ k ≠ gR := fun k hk => by
    rcases hloc with e | e
    · rw [e] at hk; exact ⟨fun e' => (hL.off i hi).1 (hk.trans (by rw [e'])), fun e' => (hL.off i hi).2 (hk.trans (by rw [e']))⟩
    · rw [e] at hk; cases hk; exact ⟨by omega, by omega⟩
  have hkeep : ∀ k, k ≠ b → k ≠ gR → ((W1.setCell ⟨gR, i, none⟩ v').setCell ⟨b, 4, none⟩ (.int .i64 T)).heap[k]? = W1.heap[k]? := fun k h1 h2 => (Below.heap_setCell _ ⟨b, 4, none⟩ _ k h1).trans (Below.heap_setCell _ ⟨gR, i, none⟩ _ k h2)
  have lo := hL.lb
  have lo' := hL.lg
  refine ⟨⟨⟨tb 0 _ (by decide) (cb 0 _ hL.l2.c0), tb 1 _ (by decide) (cb 1 _ hL.l2.c1), tb 2 _ (by decide) (cb 2 _ hL.l2.c2), tb 3 _ (by decide) (cb 3 _ hL.l2.c3), World.cell?_setCell_same _ _ _ (sb 4 _ (cb 4 _ hL.l2.c4))⟩, ?_, fun j hj => ?_, fun j hj => ?_, fun j k hj hk hjk => ?_, fun j hj => ?_, hL.ne, hL.lb, hL.lg⟩, ?_⟩
  · rw [World.frozen?_setCell, World.frozen?_setCell, World.frozen?_of_block (w := A) (w' := W1) (a := ⟨b, 4, none⟩) hbk]
    exact hL.z4
  · obtain ⟨e, hc, hf⟩ := hL.row j hj
    refine ⟨e, ?_, ?_⟩
    · rw [World.cell?_setCell_other _ _ _ _ (by intro e; cases e; exact hL.ne rfl)]
      by_cases e2 : j = i
      · subst e2
        rw [World.cell?_setCell_same _ _ _ (cg j _ hc), if_pos rfl]
      · rw [cell_set_ne (fun e => e2 e.symm), cg j _ hc, if_neg e2]
    · rw [World.frozen?_setCell, World.frozen?_setCell, World.frozen?_of_block (w := A) (w' := W1) (a := ⟨gR, j, none⟩) hgk]
      exact hf
  · by_cases e2 : j = i
    · subst e2
      rw [if_pos rfl, rowCells_more, show (moreP P j T j).n = (P j).n + 1 by simp [moreP]]
      exact ownsRow_same hown1 (fun k hk => hkeep k (hvb k hk).1 (hvb k hk).2)
    · rw [if_neg e2, show moreP P i T j = P j by simp [moreP, e2]]
      refine ownsRow_same (hL.own j hj) (fun k hk => ?_)
      have h1 := hL.off j hj
      refine (hkeep k (fun e => h1.1 (by rw [hk, e])) (fun e => h1.2 (by rw [hk, e]))).trans (hsm k ((hL.own j hj).lt k hk).2 ?_)
      rcases hL.apart j i hj hi e2 with h3 | h3
      · rw [hk] at h3; cases h3
      · rw [← hk]; exact h3
  · have hvn : ∀ m, m < np → m ≠ i → Apart v' (v m) ∧ Apart (v m) v' := fun m hm hmi => by
      rcases hloc with e | e
      · have h1 := hL.apart i m hi hm (fun h => hmi h.symm)
        have h2 := hL.apart m i hm hi hmi
        refine ⟨?_, ?_⟩
        · rcases h1 with h1 | h1
          · exact Or.inl (e.trans h1)
          · exact Or.inr (by rw [e]; exact h1)
        · rcases h2 with h2 | h2
          · exact Or.inl h2
          · exact Or.inr (by rw [e]; exact h2)
      · refine ⟨Or.inr ?_, ?_⟩
        · rw [e]; intro h1; have := ((hL.own m hm).lt _ h1.symm).2; omega
        · cases hm2 : (v m).ownBlock with
          | none => exact Or.inl hm2
          | some k => exact Or.inr (by rw [hm2, e]; intro h1; cases h1; have := ((hL.own m hm).lt _ hm2).2; omega)
    by_cases e2 : j = i
    · subst e2
      rw [if_pos rfl, if_neg (fun e => hjk e.symm)]
      exact (hvn k hk (fun e => hjk e.symm)).1
    · rw [if_neg e2]
      by_cases e3 : k = i
      · subst e3
        rw [if_pos rfl]
        exact (hvn j hj hjk).2
      · rw [if_neg e3]; exact hL.apart j k hj hk hjk
  · by_cases e2 : j = i
    · subst e2
      rw [if_pos rfl]
      exact ⟨fun e => (hvb b e).1 rfl, fun e => (hvb gR e).2 rfl⟩
    · rw [if_neg e2]; exact hL.off j hj
  · have hbA : B0 ≤ w.heap.size := by have := ltCell h.l2.c0; have := h.lb; dsimp only at *; omega
    refine (((hA.mono hbA).grown hgr (by have := hA.size; omega) (fun k hk => ((hL.own i hi).lt k hk).1)).setCell (p := ⟨gR, i, none⟩) lo' _).setCell (p := ⟨b, 4, none⟩) lo _
end Go.Proofs.YtnjaegeapcijpaaDoor

namespace Go.Proofs.YtnjaegeapcijpaaDoor
open Go.RowKit

structure NewP (w wr : World) (b : Nat) (a : Option Addr) (len cap : Nat) (gap : Int) (a' : Option Addr) (np cap' : Nat) (j : Nat) (vS : Value) : Prop where
  c0 : wr.cell? ⟨b, 0, none⟩ = some (.slice a len cap)
  c1 : wr.cell? ⟨b, 1, none⟩ = some (.int .i64 gap)
  c2 : wr.cell? ⟨b, 2, none⟩ = some (.slice a' np cap')
  c3 : wr.cell? ⟨b, 3, none⟩ = some vS
  c4 : wr.cell? ⟨b, 4, none⟩ = some (.int .i64 0)
  z3 : wr.frozen? ⟨b, 3, none⟩ = false
  z4 : wr.frozen? ⟨b, 4, none⟩ = false
  own : wr.ownsRow (b + 1) 23 1 vS j (List.replicate j (.slice none 0 0))
  below : Below w.heap.size w wr
theorem NewP.step {w wr w' : World} {b : Nat} {a : Option Addr} {len cap : Nat} {gap : Int} {a' : Option Addr} {np cap' : Nat} {j : Nat} {vS v' : Value} (h : NewP w wr b a len cap gap a' np cap' j vS) (hb : w.heap.size ≤ b)
    (ho : w'.ownsRow (b + 1) 23 1 v' (j + 1) (List.replicate j (.slice none 0 0) ++ [.slice none 0 0])) (hg : (wr.alloc (.cells #[.slice none 0 0] 23)).grownBy w' vS.ownBlock) :
    NewP w (w'.setCell ⟨b, 3, none⟩ v') b a len cap gap a' np cap' (j + 1) v' ∧ w'.cell? ⟨b, 3, none⟩ = some vS ∧ w'.frozen? ⟨b, 3, none⟩ = false := by
  have hB := b1 wr (.cells #[.slice none 0 0] 23)
  have lb : b < wr.heap.size := ltCell h.c0
  have hk : w'.heap[b]? = (wr.alloc (.cells #[.slice none 0 0] 23)).heap[b]? := hg.block b (by have := hB.size; omega) (fun e => by have := (h.own.lt b e.symm).1; omega)
  have cc : ∀ o u, wr.cell? ⟨b, o, none⟩ = some u → w'.cell? ⟨b, o, none⟩ = some u := fun o u hu => (World.cell?_of_block (w := wr.alloc (.cells #[.slice none 0 0] 23)) (w' := w') (a := ⟨b, o, none⟩) hk).trans (cellLater hB hu)
  have zz : ∀ o u, wr.cell? ⟨b, o, none⟩ = some u → wr.frozen? ⟨b, o, none⟩ = false → w'.frozen? ⟨b, o, none⟩ = false := fun o u hu hz => (World.frozen?_of_block (w := wr.alloc (.cells #[.slice none 0 0] 23)) (w' := w') (a := ⟨b, o, none⟩) hk).trans ((hB.frozen (ltCell hu)).trans hz)
  refine ⟨⟨(cell_set_ne (by decide)).trans (cc 0 _ h.c0), (cell_set_ne (by decide)).trans (cc 1 _ h.c1), (cell_set_ne (by decide)).trans (cc 2 _ h.c2), World.cell?_setCell_same _ _ _ (cc 3 _ h.c3), (cell_set_ne (by decide)).trans (cc 4 _ h.c4), by rw [World.frozen?_setCell]; exact zz 3 _ h.c3 h.z3, by rw [World.frozen?_setCell]; exact zz 4 _ h.c4 h.z4, ?_, ?_⟩, cc 3 _ h.c3, zz 3 _ h.c3 h.z3⟩
  · rw [List.replicate_succ']
    exact ownsRow_setCell_below ho (Nat.lt_succ_self _) _
  · exact ((Below.join h.below (Nat.le_refl _) hB).grown hg (by have := h.below.size; have := hB.size; omega) (fun k hk2 => by have := (h.own.lt k hk2).1; omega)).setCell (p := ⟨b, 3, none⟩) hb _

set_option maxRecDepth 20000 in
set_option maxHeartbeats 4000000 in
theorem l2new_any (a : Option Addr) (len cap : Nat) (gap : Int) (a' : Option Addr) (np cap' : Nat) (w : World) (hn : np ≤ 5) :
    Calls Tryd.prog 17 #[.agg #[.slice a len cap, .int .i64 gap, .slice a' np cap']] w fun e w' => (∃ gR c nc, e = .returned (.pointer (some ⟨w.heap.size + 1, 0, none⟩)) ∧ LP w.heap.size w' (w.heap.size + 1) gR a len cap gap a' np cap' c nc (fun _ => .slice none 0 0) (fun _ => ⟨0, fun _ => 0⟩) 0) ∧ Below w.heap.size w w' := by
  obtain ⟨i0, hi, hz0, hz1, hz2⟩ := info_parts Tryd.infoRow
  obtain ⟨y0, y1, y2⟩ := new3 w (.slice a len cap) (.int .i64 gap) (.slice a' np cap') 26
  go_enter Tryd.func17, Tryd.ntmps17
  go_wp2
  have hN := b2 w (.cells #[.slice a len cap, .int .i64 gap, .slice a' np cap'] 26) (.cells #[.slice a len cap, .int .i64 gap, .slice a' np cap', .slice none 0 0, .int .i64 0] 60)
  have hTb := Go.heap_alloc_new (w.alloc (.cells #[.slice a len cap, .int .i64 gap, .slice a' np cap'] 26)) (.cells #[.slice a len cap, .int .i64 gap, .slice a' np cap', .slice none 0 0, .int .i64 0] 60)
  rw [World.size_alloc] at hTb
  refine nameW fun V hV => ?_
  rw [← hV] at hTb hN
  have e0 := cell_of_row V (w.heap.size + 1) 0 _ _ _ hTb
  have e1 := cell_of_row V (w.heap.size + 1) 1 _ _ _ hTb
  have e2 := cell_of_row V (w.heap.size + 1) 2 _ _ _ hTb
  have e3 := cell_of_row V (w.heap.size + 1) 3 _ _ _ hTb
  have e4 := cell_of_row V (w.heap.size + 1) 4 _ _ _ hTb
  simp at e0 e1 e2 e3 e4
  have z3 : V.frozen? ⟨w.heap.size + 1, 3, none⟩ = false := by rw [hV]; rw [World.frozen?_alloc_at _ _ _ _ (by simp)]
  have z4 : V.frozen? ⟨w.heap.size + 1, 4, none⟩ = false := by rw [hV]; rw [World.frozen?_alloc_at _ _ _ _ (by simp)]
  clear hV hTb y0 y1 y2
  go_loopw [10] (fun jj wr => ∃ (j : Nat) (vS : Value), j ≤ np ∧ jj = .int .i64 j ∧ NewP w wr (w.heap.size + 1) a len cap gap a' np cap' j vS) (fun jj _ => np - (intOf jj).toNat)
  case atStart => exact ⟨0, .slice none 0 0, Nat.zero_le _, rfl, e0, e1, e2, e3, e4, z3, z4, World.ownsRow_nil _ _ _ _, hN⟩
  case round =>
    obtain ⟨j, vS, hj, rfl, hP⟩ := hrel
    by_cases hlt : j < np
    · have hj' : (j : Int) < (np : Int) := by omega
      have c3 := hP.c3
      have lb := ltCell c3
      dsimp only at lb
      go_wp2_with (at_builtin; refine wpList_append_own _ rfl _ _ 29 rfl (w.heap.size + 1 + 1) 23 i0 _ 1 24 Tryd.underlying29 hi hz0 hz1 hz2 rfl (by decide) _ _ _ rfl (hP.own.alloc _) ⟨wr.heap.size, 0, none⟩ 1 1 [.slice none 0 0] rfl rfl cells1_lie (fun u hu => by simp at hu; subst hu; rfl) (by unfold maxLen; omega) (by omega) (by simp only [World.size_alloc]; omega) ?_)
      intro v' w6 hown' hgrow _
      obtain ⟨hP2, m3, mz⟩ := hP.step (by omega) hown' hgrow
      have hform := Joins.ownsRow_form hown' (by omega)
      obtain ⟨gn, cn, rfl⟩ := hform
      have hP2' : Hid _ := hP2
      clear hP2 hown' hgrow c3
      go_wp2
      go_roundw
      case rel => exact ⟨j + 1, _, by omega, by go_num, hP2'.out⟩
      case measure => simp [intOf]; omega
    · obtain rfl : j = np := by omega
      go_wp2
      go_ret
      refine ⟨?_, hP.below⟩
      have hb : w.heap.size ≤ w.heap.size + 1 := by omega
      rcases hP.own.2 with ⟨e, h0⟩ | ⟨gR, cp, cur, e, hgb, hgg, _⟩
      · subst h0
        exact ⟨w.heap.size, none, 0, rfl, ⟨hP.c0, hP.c1, hP.c2, by rw [hP.c3, e], hP.c4⟩, hP.z4, fun k hk => by omega, fun k hk => by omega, fun k _ hk => by omega, fun k hk => by omega, by omega, hb, Nat.le_refl _⟩
      · have ho := hP.own
        rw [e] at ho
        refine ⟨gR, some ⟨gR, 0, none⟩, cp, rfl, ⟨hP.c0, hP.c1, hP.c2, by rw [hP.c3, e], hP.c4⟩, hP.z4, fun k hk => ⟨rfl, ?_, ho.frozenAt k⟩, fun k hk => World.ownsRow_nil _ _ _ _, fun k m _ _ _ => Or.inl rfl, fun k hk => ⟨by simp [Value.ownBlock], by simp [Value.ownBlock]⟩, by omega, hb, by omega⟩
        rw [ho.cellAt k (by omega), List.getElem?_replicate, if_pos hk]
end Go.Proofs.YtnjaegeapcijpaaDoor
