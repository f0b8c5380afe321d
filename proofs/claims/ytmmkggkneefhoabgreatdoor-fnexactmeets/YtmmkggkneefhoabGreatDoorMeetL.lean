/-
  Rows of meetings: the laws' own comparison, mark and look at the mark.
-/
import Derived.Test.YtmmkggkneefhoabGreatDoorMark
import Derived.Test.YtmmkggkneefhoabGreatDoorApp
namespace Go.Proofs.YtmmkggkneefhoabGreatDoor
open Go.RowKit

def IsMeets (W : World) (v : Value) (L : List MeetD) : Prop :=
  ∃ a cap, v = .slice a L.length cap ∧ ∀ r, r < L.length → ∃ h g off, L[r]? = some h ∧ a = some ⟨g, off, none⟩ ∧ W.cell? ⟨g, off + r * 5, none⟩ = some (.int .i64 h.a) ∧ W.cell? ⟨g, off + r * 5 + 1, none⟩ = some (.int .i64 h.b) ∧ W.cell? ⟨g, off + r * 5 + 2, none⟩ = some (.int .i64 h.at_) ∧ W.cell? ⟨g, off + r * 5 + 3, none⟩ = some (.int .i64 h.frm) ∧ W.cell? ⟨g, off + r * 5 + 4, none⟩ = some (.int .i64 h.to)
theorem IsMeets.later {W W' : World} {v : Value} {L : List MeetD} (h : IsMeets W v L) (hB : Below W.heap.size W W') : IsMeets W' v L := by
  obtain ⟨a, cap, e, hc⟩ := h
  refine ⟨a, cap, e, fun r hr => ?_⟩
  obtain ⟨x, g, off, hx, e2, c0, c1, c2, c3, c4⟩ := hc r hr
  exact ⟨x, g, off, hx, e2, cellLater hB c0, cellLater hB c1, cellLater hB c2, cellLater hB c3, cellLater hB c4⟩
theorem isMeets_of {W : World} {b0 : Nat} {v : Value} {L : List MeetD} (h : W.ownsRow b0 108 5 v L.length (meetCells L)) : IsMeets W v L := by
  rcases h.2 with ⟨rfl, h0⟩ | ⟨g, cap, cur, rfl, _, hg, _⟩
  · exact ⟨none, 0, by rw [h0], fun r hr => by omega⟩
  · refine ⟨_, cap, rfl, fun r hr => ⟨L[r], g, 0, List.getElem?_eq_getElem hr, rfl, ?_⟩⟩
    obtain ⟨h0, h1, h2, h3, h4⟩ := meetCells_at L r L[r] (List.getElem?_eq_getElem hr)
    have hc := h.cells (g := g) rfl
    have e : ∀ j, (⟨g, 0, none⟩ : Addr).add j = ⟨g, 0 + j, none⟩ := fun j => by unfold Addr.add; split <;> simp_all
    refine ⟨?_, ?_, ?_, ?_, ?_⟩
    · have := hc _ _ h0; rwa [e] at this
    · have := hc _ _ h1; rwa [e] at this
    · have := hc _ _ h2; rwa [e] at this
    · have := hc _ _ h3; rwa [e] at this
    · have := hc _ _ h4; rwa [e] at this

theorem eqMeet_same (x y z p q : Int) (w : World) : Calls Tryz.prog 67 #[.agg #[.int .i64 x, .int .i64 y, .int .i64 z, .int .i64 p, .int .i64 q], .agg #[.int .i64 x, .int .i64 y, .int .i64 z, .int .i64 p, .int .i64 q]] w fun e w' => e = .returned (.bool true) ∧ Below w.heap.size w w' := by
  go_enter Tryz.func67, Tryz.ntmps67
  go_wp2
  go_ret
  exact ⟨rfl, b2 _ _ _⟩

set_option maxHeartbeats 2000000 in
theorem eqMeetS_same (v v' : Value) (L : List MeetD) (w : World) (hl : L.length ≤ 1048576) (hI : IsMeets w v L) (hJ : IsMeets w v' L) :
    Calls Tryz.prog 33 #[v, v'] w fun e w' => e = .returned (.bool true) ∧ Below w.heap.size w w' := by
  obtain ⟨a, cap, rfl, hI⟩ := hI
  obtain ⟨b, cap', rfl, hJ⟩ := hJ
  generalize hn : L.length = len at *
  go_enter Tryz.func33, Tryz.ntmps33
  go_wp2
  go_loopw [5] (fun i wr => ∃ (k : Nat), k ≤ len ∧ i = .int .i64 k ∧ Below w.heap.size w wr) (fun i _ => len - (intOf i).toNat)
  case atStart => exact ⟨0, Nat.zero_le _, rfl, Below.refl _ _⟩
  case round =>
    obtain ⟨k, hk, rfl, hB⟩ := hrel
    by_cases hlt : k < len
    · obtain ⟨x, ba, oa, hx, rfl, ca0, ca1, ca2, ca3, ca4⟩ := hI k hlt
      obtain ⟨x', bb, ob, hx', rfl, cb0, cb1, cb2, cb3, cb4⟩ := hJ k hlt
      rw [hx] at hx'
      cases hx'
      replace ca0 := cellLater hB ca0
      replace ca1 := cellLater hB ca1
      replace ca2 := cellLater hB ca2
      replace ca3 := cellLater hB ca3
      replace ca4 := cellLater hB ca4
      replace cb0 := cellLater hB cb0
      replace cb1 := cellLater hB cb1
      replace cb2 := cellLater hB cb2
      replace cb3 := cellLater hB cb3
      replace cb4 := cellLater hB cb4
      clear hx
      have hlt' : (k : Int) < (len : Int) := by omega
      go_wp2
      go_region_held3 (fun w' => w'.cell? ⟨ba, oa + k * 5, none⟩ = some (.int .i64 x.a) ∧ w'.cell? ⟨ba, oa + k * 5 + 1, none⟩ = some (.int .i64 x.b) ∧ w'.cell? ⟨ba, oa + k * 5 + 2, none⟩ = some (.int .i64 x.at_) ∧ w'.cell? ⟨ba, oa + k * 5 + 3, none⟩ = some (.int .i64 x.frm) ∧ w'.cell? ⟨ba, oa + k * 5 + 4, none⟩ = some (.int .i64 x.to) ∧ w'.cell? ⟨bb, ob + k * 5, none⟩ = some (.int .i64 x.a) ∧ w'.cell? ⟨bb, ob + k * 5 + 1, none⟩ = some (.int .i64 x.b) ∧ w'.cell? ⟨bb, ob + k * 5 + 2, none⟩ = some (.int .i64 x.at_) ∧ w'.cell? ⟨bb, ob + k * 5 + 3, none⟩ = some (.int .i64 x.frm) ∧ w'.cell? ⟨bb, ob + k * 5 + 4, none⟩ = some (.int .i64 x.to)) (first | go_keep | (go_split_ands; refine ⟨?_, ?_, ?_, ?_, ?_, ?_, ?_, ?_, ?_, ?_⟩ <;> exact cellLater hB2 (by assumption))) ((go_at_call 67; refine (eqMeet_same _ _ _ _ _ _).mono ?_; rintro e w2 ⟨rfl, hB2⟩))
      go_wp2
      go_roundw
      case rel => exact ⟨k + 1, by omega, by go_num, Below.join hB.drew (Nat.le_refl _) hB2⟩
      case measure => simp [intOf]; omega
    · go_wp2
      go_ret
      exact ⟨rfl, hB⟩

def markedM (q : Int) (n : Nat) : List MeetD := (List.range n).map fun r : Nat => ⟨q + r * 5, q + r * 5 + 1, q + r * 5 + 1 + 1, q + r * 5 + 1 + 1 + 1, q + r * 5 + 1 + 1 + 1 + 1⟩
theorem markedM_len (q : Int) (n : Nat) : (markedM q n).length = n := by simp [markedM]
theorem markedM_at (q : Int) (n r : Nat) (h : r < n) : (markedM q n)[r]? = some ⟨q + r * 5, q + r * 5 + 1, q + r * 5 + 1 + 1, q + r * 5 + 1 + 1 + 1, q + r * 5 + 1 + 1 + 1 + 1⟩ := by simp [markedM, h]

set_option maxHeartbeats 2000000 in
theorem markMeetS_any (v : Value) (b0 n : Nat) (xs : List Value) (q : Int) (w : World) (hl : n ≤ 1048576) (h0 : 0 ≤ q) (h1 : q ≤ 281474976710656) (ho : w.ownsRow b0 108 5 v n xs) :
    Calls Tryz.prog 34 #[v, .int .i64 q] w fun e w' => e = .returned (.int .i64 (q + n * 5)) ∧ IsMeets w' v (markedM q n) ∧ Mid b0 w.heap.size w w' := by
  rcases ho.2 with ⟨rfl, rfl⟩ | ⟨g, cap, cur, rfl, hb, hg, _⟩
  · go_enter Tryz.func34, Tryz.ntmps34
    go_wp2
    go_loopw [1, 5] (fun kv i wr => i = .int .i64 0 ∧ kv = .int .i64 q ∧ wr = w) (fun _ i _ => 0)
    case atStart => exact ⟨rfl, rfl, rfl⟩
    case round =>
      obtain ⟨rfl, rfl, rfl⟩ := hrel
      go_wp2
      go_ret
      exact ⟨by simp, ⟨none, 0, rfl, fun r hr => by simp [markedM] at hr⟩, Mid.refl _ _ _⟩
  · have hlen := ho.1
    have hgw : g < w.heap.size := (ho.lt g rfl).2
    have hcell : ∀ i, i < n * 5 → ∃ u, w.cell? ⟨g, i, none⟩ = some u ∧ w.frozen? ⟨g, i, none⟩ = false := fun i hi => by
      rw [ho.cellAt i hi]
      exact ⟨xs[i]'(by omega), List.getElem?_eq_getElem (by omega), ho.frozenAt i⟩
    go_enter Tryz.func34, Tryz.ntmps34
    go_wp2
    go_loopw [1, 5] (fun kv i wr => ∃ (k : Nat), k ≤ n ∧ i = .int .i64 k ∧ kv = .int .i64 (q + k * 5) ∧ (∀ r : Nat, r < k → wr.cell? ⟨g, r * 5, none⟩ = some (.int .i64 (q + r * 5)) ∧ wr.cell? ⟨g, r * 5 + 1, none⟩ = some (.int .i64 (q + r * 5 + 1)) ∧ wr.cell? ⟨g, r * 5 + 2, none⟩ = some (.int .i64 (q + r * 5 + 1 + 1)) ∧ wr.cell? ⟨g, r * 5 + 3, none⟩ = some (.int .i64 (q + r * 5 + 1 + 1 + 1)) ∧ wr.cell? ⟨g, r * 5 + 4, none⟩ = some (.int .i64 (q + r * 5 + 1 + 1 + 1 + 1))) ∧ Mid b0 w.heap.size w wr) (fun _ i _ => n - (intOf i).toNat)
    case atStart => exact ⟨0, Nat.zero_le _, rfl, by simp, fun _ h => by omega, Mid.refl _ _ _⟩
    case round =>
      obtain ⟨k, hk, rfl, rfl, hall, hM⟩ := hrel
      by_cases hlt : k < n
      · have hc : ∀ i, i < n * 5 → ∃ u, wr.cell? ⟨g, i, none⟩ = some u ∧ wr.frozen? ⟨g, i, none⟩ = false := fun i hi => by
          obtain ⟨u, hu, hf⟩ := hcell i hi
          exact hM.keeps _ _ _ hu hf
        obtain ⟨v0, c0, z0⟩ := hc (k * 5) (by omega)
        obtain ⟨v1, c1, z1⟩ := hc (k * 5 + 1) (by omega)
        obtain ⟨v2, c2, z2⟩ := hc (k * 5 + 2) (by omega)
        obtain ⟨v3, c3, z3⟩ := hc (k * 5 + 3) (by omega)
        obtain ⟨v4, c4, z4⟩ := hc (k * 5 + 4) (by omega)
        have hR : Room g (n * 5) wr := hc
        clear hcell hc
        have hlt' : (k : Int) < (n : Int) := by omega
        have hk2 : (k : Int) ≤ 1048576 := by omega
        have hk0 : (0 : Int) ≤ (k : Int) := by omega
        have hallH : Hid _ := hall
        clear hall
        go_wp2
        go_roundw
        case rel =>
          refine ⟨k + 1, by omega, by go_num, by go_num, fun r hr => ?_, ((((hM.trans (Mid.set hb hgw _)).trans (Mid.set hb hgw _)).trans (Mid.set hb hgw _)).trans (Mid.set hb hgw _)).trans (Mid.set hb hgw _)⟩
          by_cases e : r = k
          · subst e
            exact cells5 hR (i := r * 5) (by omega)
          · have hold : ∀ j, j < k * 5 → ∀ x0 x1 x2 x3 x4, (st5 wr g (k * 5) x0 x1 x2 x3 x4).cell? ⟨g, j, none⟩ = wr.cell? ⟨g, j, none⟩ := fun j hj x0 x1 x2 x3 x4 => cells5_old hj
            obtain ⟨e0, e1, e2, e3, e4⟩ := hallH.out r (by omega)
            exact ⟨(hold _ (by omega) _ _ _ _ _).trans e0, (hold _ (by omega) _ _ _ _ _).trans e1, (hold _ (by omega) _ _ _ _ _).trans e2, (hold _ (by omega) _ _ _ _ _).trans e3, (hold _ (by omega) _ _ _ _ _).trans e4⟩
        case measure => simp [intOf]; omega
      · obtain rfl : k = n := by omega
        go_wp2
        go_ret
        refine ⟨rfl, ⟨_, cap, by rw [markedM_len], fun r hr => ?_⟩, hM⟩
        rw [markedM_len] at hr
        obtain ⟨e0, e1, e2, e3, e4⟩ := hall r hr
        exact ⟨_, g, 0, markedM_at q k r hr, rfl, by rw [Nat.zero_add]; exact e0, by rw [Nat.zero_add]; exact e1, by rw [Nat.zero_add]; exact e2, by rw [Nat.zero_add]; exact e3, by rw [Nat.zero_add]; exact e4⟩

set_option maxHeartbeats 2000000 in
theorem heldMeetS_any (v : Value) (n : Nat) (q : Int) (w : World) (hl : n ≤ 1048576) (h0 : 0 ≤ q) (h1 : q ≤ 281474976710656) (hI : IsMeets w v (markedM q n)) :
    Calls Tryz.prog 35 #[v, .int .i64 q] w fun e w' => e = .returned (.int .i64 (q + n * 5)) ∧ Below w.heap.size w w' := by
  obtain ⟨a, cap, rfl, hI⟩ := hI
  rw [markedM_len] at hI ⊢
  go_enter Tryz.func35, Tryz.ntmps35
  go_wp2
  go_loopw [1, 5] (fun kv i wr => ∃ (k : Nat), k ≤ n ∧ i = .int .i64 k ∧ kv = .int .i64 (q + k * 5) ∧ Below w.heap.size w wr) (fun _ i _ => n - (intOf i).toNat)
  case atStart => exact ⟨0, Nat.zero_le _, rfl, by simp, Below.refl _ _⟩
  case round =>
    obtain ⟨k, hk, rfl, rfl, hB⟩ := hrel
    by_cases hlt : k < n
    · obtain ⟨x, g, off, hx, rfl, c0, c1, c2, c3, c4⟩ := hI k hlt
      rw [markedM_at q n k hlt] at hx
      cases hx
      replace c0 := cellLater hB c0
      replace c1 := cellLater hB c1
      replace c2 := cellLater hB c2
      replace c3 := cellLater hB c3
      replace c4 := cellLater hB c4
      dsimp only at c0 c1 c2 c3 c4
      have hlt' : (k : Int) < (n : Int) := by omega
      have hk2 : (k : Int) ≤ 1048576 := by omega
      have hk0 : (0 : Int) ≤ (k : Int) := by omega
      go_wp2
      go_roundw
      case rel => exact ⟨k + 1, by omega, by go_num, by go_num, hB⟩
      case measure => simp [intOf]; omega
    · obtain rfl : k = n := by omega
      go_wp2
      go_ret
      exact ⟨rfl, hB⟩
end Go.Proofs.YtmmkggkneefhoabGreatDoor
