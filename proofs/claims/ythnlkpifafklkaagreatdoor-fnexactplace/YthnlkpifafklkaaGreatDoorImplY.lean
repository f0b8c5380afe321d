/-
  The program's three looks at a leg: too soon, on a track that is taken, to a station that is full.
-/
import Derived.Test.YthnlkpifafklkaaGreatDoorImplX
import Derived.Test.YthnlkpifafklkaaGreatDoorPlansC
import Derived.Test.YthnlkpifafklkaaGreatDoorSpecC
import Derived.Test.YthnlkpifafklkaaGreatDoorSmall
namespace Go.Proofs.YthnlkpifafklkaaGreatDoor
open Go.RowKit

def soonC (f : Nat → TrainD) (P : Nat → RowD) (i k : Nat) : Int × Int × Int × Int := if (P i).s k < readyOf f P i k then (2, (i : Int), (k : Int), 0) else (0, 0, 0, 0)
def takenC (gap : Int) (np : Nat) (f : Nat → TrainD) (P : Nat → RowD) (i k : Nat) : Int × Int × Int × Int :=
  match (listT gap np f P (trackOf (f i) k)).find? (hitB i ((P i).s k)) with
  | some h => (3, (i : Int), (k : Int), (h.tr : Int))
  | none => (0, 0, 0, 0)
def fullC (g : Nat → Int) (np : Nat) (f : Nat → TrainD) (P : Nat → RowD) (i k : Nat) : Int × Int × Int × Int :=
  if g ((f i).leg k).to.toNat < ((listS np f P ((f i).leg k).to).countP (metB i ((P i).s k)) : Int) then (4, (i : Int), (k : Int), 0) else (0, 0, 0, 0)
def clashV (v : Int × Int × Int × Int) : Value := .agg #[.int .i64 v.1, .int .i64 v.2.1, .int .i64 v.2.2.1, .int .i64 v.2.2.2]
theorem readyR_eq (f : Nat → TrainD) (P : Nat → RowD) (i k : Nat) : readyR (f i) (P i).s k = readyOf f P i k := by cases k <;> rfl

/-- what a look knows of its own two blocks: the holders' box, the answer's four places -/
structure LookBox (w W : World) (a : Option Addr) (len cap : Nat) (a' : Option Addr) (np cap' : Nat) (c : Option Addr) (nc bT bS : Nat) : Prop where
  h0 : W.cell? ⟨w.heap.size, 0, none⟩ = some (.slice a' np cap')
  h1 : W.cell? ⟨w.heap.size, 1, none⟩ = some (.slice c np nc)
  h2 : W.cell? ⟨w.heap.size, 2, none⟩ = some (.slice a len cap)
  h3 : W.cell? ⟨w.heap.size, 3, none⟩ = some (.map (some bT))
  h4 : W.cell? ⟨w.heap.size, 4, none⟩ = some (.map (some bS))
  r0 : W.cell? ⟨w.heap.size + 1, 0, none⟩ = some (.int .i64 0)
  r1 : W.cell? ⟨w.heap.size + 1, 1, none⟩ = some (.int .i64 0)
  r2 : W.cell? ⟨w.heap.size + 1, 2, none⟩ = some (.int .i64 0)
  r3 : W.cell? ⟨w.heap.size + 1, 3, none⟩ = some (.int .i64 0)
  z0 : W.frozen? ⟨w.heap.size + 1, 0, none⟩ = false
  z1 : W.frozen? ⟨w.heap.size + 1, 1, none⟩ = false
  z2 : W.frozen? ⟨w.heap.size + 1, 2, none⟩ = false
  z3 : W.frozen? ⟨w.heap.size + 1, 3, none⟩ = false
theorem LookBox.later {w W W' : World} {a : Option Addr} {len cap : Nat} {a' : Option Addr} {np cap' : Nat} {c : Option Addr} {nc bT bS : Nat} (h : LookBox w W a len cap a' np cap' c nc bT bS) (hb : Below W.heap.size W W') : LookBox w W' a len cap a' np cap' c nc bT bS :=
  ⟨cellLater hb h.h0, cellLater hb h.h1, cellLater hb h.h2, cellLater hb h.h3, cellLater hb h.h4, cellLater hb h.r0, cellLater hb h.r1, cellLater hb h.r2, cellLater hb h.r3, frozenLater hb h.r0 h.z0, frozenLater hb h.r1 h.z1, frozenLater hb h.r2 h.z2, frozenLater hb h.r3 h.z3⟩
theorem LookBox.new (w : World) (a : Option Addr) (len cap : Nat) (a' : Option Addr) (np cap' : Nat) (c : Option Addr) (nc bT bS : Nat) (t t' : TypeId) :
    LookBox w ((w.alloc (.cells #[.slice a' np cap', .slice c np nc, .slice a len cap, .map (some bT), .map (some bS)] t)).alloc (.cells #[.int .i64 0, .int .i64 0, .int .i64 0, .int .i64 0] t')) a len cap a' np cap' c nc bT bS := by
  obtain ⟨⟨y0, y1, y2, y3, y4⟩, _⟩ := box5 (Go.heap_alloc_new w (.cells #[.slice a' np cap', .slice c np nc, .slice a len cap, .map (some bT), .map (some bS)] t))
  refine ⟨cellLater (b1 _ _) y0, cellLater (b1 _ _) y1, cellLater (b1 _ _) y2, cellLater (b1 _ _) y3, cellLater (b1 _ _) y4, ?_, ?_, ?_, ?_, ?_, ?_, ?_, ?_⟩
  · rw [World.cell?_alloc_at _ _ _ _ (by simp)]; rfl
  · rw [World.cell?_alloc_at _ _ _ _ (by simp)]; rfl
  · rw [World.cell?_alloc_at _ _ _ _ (by simp)]; rfl
  · rw [World.cell?_alloc_at _ _ _ _ (by simp)]; rfl
  · rw [World.frozen?_alloc_at _ _ _ _ (by simp)]
  · rw [World.frozen?_alloc_at _ _ _ _ (by simp)]
  · rw [World.frozen?_alloc_at _ _ _ _ (by simp)]
  · rw [World.frozen?_alloc_at _ _ _ _ (by simp)]

set_option maxRecDepth 20000 in
set_option maxHeartbeats 4000000 in
theorem tooSoon_any (a : Option Addr) (len cap : Nat) (a' : Option Addr) (np cap' : Nat) (f : Nat → TrainD) (c : Option Addr) (nc bT bS : Nat) (P : Nat → RowD) (i k : Nat) (w : World)
    (hR : RightL len np f) (hQ : RightP np f np P) (hi : i < np) (hk : k < (f i).nl) (hT : IsTrains 0 w.heap.size w a' np f) (hP : IsRows 0 w.heap.size w c np P) (hC : Caps w c np) :
    Calls Tryz.prog 88 #[.agg #[.slice a' np cap', .slice c np nc, .slice a len cap, .map (some bT), .map (some bS)], .int .i64 i, .int .i64 k] w fun e w' => e = .returned (clashV (soonC f P i k)) ∧ Below w.heap.size w w' := by
  have hX := LookBox.new w a len cap a' np cap' c nc bT bS 136 86
  have hN := b2 w (.cells #[.slice a' np cap', .slice c np nc, .slice a len cap, .map (some bT), .map (some bS)] 136) (.cells #[.int .i64 0, .int .i64 0, .int .i64 0, .int .i64 0] 86)
  have htr := hR.tr
  have hRi := hR.train i hi
  have hnl := hRi.nl
  have hi' : (i : Int) < (np : Int) := by omega
  have hi0 : (0 : Int) ≤ (i : Int) := by omega
  have hk' : (k : Int) < ((f i).nl : Int) := by omega
  have hk0 : (0 : Int) ≤ (k : Int) := by omega
  obtain ⟨b, off, la, lc, rfl, _, hb, t0, t1, t2, t3, t4, hlg, _⟩ := hT i hi
  obtain ⟨bp, op, lp, lpc, rfl, _, hbp, p0, hin, _⟩ := hP i hi
  rw [hQ.row i hi] at p0 hin
  have hcap := hC.at hi p0
  have hkc : (k : Int) ≤ (lpc : Int) := by omega
  obtain ⟨bi, oi, rfl, _, hbi, q0⟩ := hin k hk
  have hin1 : IsInts 0 w.heap.size w (some ⟨bi, oi, none⟩) k (P i).s := fun j hj => hin j (by omega)
  replace t0 := cellLater hN t0
  replace t1 := cellLater hN t1
  replace t2 := cellLater hN t2
  replace t3 := cellLater hN t3
  replace t4 := cellLater hN t4
  replace p0 := cellLater hN p0
  replace q0 := cellLater hN q0
  replace hlg := hlg.grow hN.drew
  replace hin1 := hin1.grow hN.drew
  have y0 := hX.h0
  have y1 := hX.h1
  go_enter Tryz.func88, Tryz.ntmps88
  go_wp2
  refine nameW fun W hW => ?_
  rw [← hW] at hX hN t0 t1 t2 t3 t4 p0 q0 hlg hin1 y0 y1
  clear hW
  go_region_held3 (fun w' => w'.cell? ⟨w.heap.size, 0, none⟩ = some (.slice (some ⟨b, off, none⟩) np cap') ∧ w'.cell? ⟨b, off + i * 5, none⟩ = some (.int .i64 (f i).frm) ∧ w'.cell? ⟨b, off + i * 5 + 1, none⟩ = some (.int .i64 (f i).ready) ∧ w'.cell? ⟨b, off + i * 5 + 2, none⟩ = some (.int .i64 (f i).due) ∧ w'.cell? ⟨b, off + i * 5 + 3, none⟩ = some (.int .i64 (f i).weight) ∧ w'.cell? ⟨b, off + i * 5 + 4, none⟩ = some (.slice la (f i).nl lc) ∧ w'.cell? ⟨bi, oi + k, none⟩ = some (.int .i64 ((P i).s k))) (first | go_keep | (go_split_ands; refine ⟨?_, ?_, ?_, ?_, ?_, ?_, ?_⟩ <;> exact cellLater hB3 (by assumption))) ((first | (go_at_call 64; refine (soonest_any (f i) (P i).s k _ _ _ _ _ hk hRi (fun j hj => hQ.at0 i hi j (by omega)) hlg hin1).mono ?_; rintro e w3 ⟨rfl, hB3⟩)))
  replace hX := hX.later (Below.join (Below.refl _ _).drew (Nat.le_refl _) hB3)
  replace hN := Below.join hN.drew (Nat.le_refl _) hB3
  have r0 := hX.r0
  have r1 := hX.r1
  have r2 := hX.r2
  have r3 := hX.r3
  have z0 := hX.z0
  have z1 := hX.z1
  have z2 := hX.z2
  have z3 := hX.z3
  by_cases hbad : (P i).s k < readyR (f i) (P i).s k
  · have e1 : soonC f P i k = (2, (i : Int), (k : Int), 0) := by unfold soonC; rw [if_pos (by rw [← readyR_eq]; exact hbad)]
    go_wp2
    refine bodyPost_ret (v := .agg #[.int .i64 2, .int .i64 i, .int .i64 k, .int .i64 0]) (by simp [results, Tryz.results88, go_sem, r0, r1, r2, r3]) rfl ⟨by first | rfl | (rw [e1]; rfl), ?_⟩
    exact below_set4 hN (by omega) _ _ _ _
  · have e1 : soonC f P i k = (0, 0, 0, 0) := by unfold soonC; rw [if_neg (by rw [← readyR_eq]; exact hbad)]
    go_wp2
    refine bodyPost_ret (v := .agg #[.int .i64 0, .int .i64 0, .int .i64 0, .int .i64 0]) (by simp [results, Tryz.results88, go_sem, r0, r1, r2, r3]) rfl ⟨by first | rfl | (rw [e1]; rfl), ?_⟩
    exact below_set4 hN (by omega) _ _ _ _
end Go.Proofs.YthnlkpifafklkaaGreatDoor
