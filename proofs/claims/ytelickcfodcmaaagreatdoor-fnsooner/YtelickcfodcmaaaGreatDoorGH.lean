/-
  The program's three looks at a leg: too soon, on a track that is taken, to a station that is full.
  The program's looks at what is taken, by the lists of holds.
  The program's way through all legs: the first clash that a look finds.
  cmp.Or over three clashes: the first that is not the zero value.
-/
import Derived.Test.YtelickcfodcmaaaGreatDoorImplX
import Derived.Test.YtelickcfodcmaaaGreatDoorGA
import Derived.Test.YtelickcfodcmaaaGreatDoorSpecC
import Derived.Test.YtelickcfodcmaaaGreatDoorSmall
namespace Go.Proofs.YtelickcfodcmaaaGreatDoor
open Go.RowKit

def soonC (f : Nat → TrainD) (P : Nat → RowD) (i k : Nat) : Int × Int × Int × Int := if (P i).s k < readyOf f P i k then (2, (i : Int), (k : Int), 0) else (0, 0, 0, 0)
def takenC (gap : Int) (np : Nat) (f : Nat → TrainD) (P : Nat → RowD) (i k : Nat) : Int × Int × Int × Int :=
  match (listT gap np f P (trackOf (f i) k)).find? (hitB i ((P i).s k)) with
  | some h => (3, (i : Int), (k : Int), (h.tr : Int))
  | none => (0, 0, 0, 0)
def fullC (g : Nat → Int) (np : Nat) (f : Nat → TrainD) (P : Nat → RowD) (i k : Nat) : Int × Int × Int × Int :=
  if g ((f i).leg k).to.toNat < ((listS np f P ((f i).leg k).to).countP (metB i ((P i).s k)) : Int) then (4, (i : Int), (k : Int), 0) else (0, 0, 0, 0)
def clashV (v : Int × Int × Int × Int) : Value := .agg #[.int .i64 v.1, .int .i64 v.2.1, .int .i64 v.2.2.1, .int .i64 v.2.2.2]
theorem readyR_eq (f : Nat → TrainD) (P : Nat → RowD) (i k : Nat) : readyR (f i) (P i).s k = readyOf f P i k := by cases k <;> rfl

/-- what a look knows of its own two blocks: the holders' box, the answer's four places -/
structure LookBox (w W : World) (a : Option Addr) (len cap : Nat) (a' : Option Addr) (np cap' : Nat) (c : Option Addr) (nc bT bS : Nat) : Prop where
  h0 : W.cell? ⟨w.heap.size, 0, none⟩ = some (.slice a' np cap')
  h1 : W.cell? ⟨w.heap.size, 1, none⟩ = some (.slice c np nc)
  h2 : W.cell? ⟨w.heap.size, 2, none⟩ = some (.slice a len cap)
  h3 : W.cell? ⟨w.heap.size, 3, none⟩ = some (.map (some bT))
  h4 : W.cell? ⟨w.heap.size, 4, none⟩ = some (.map (some bS))
  r0 : W.cell? ⟨w.heap.size + 1, 0, none⟩ = some (.int .i64 0)
  r1 : W.cell? ⟨w.heap.size + 1, 1, none⟩ = some (.int .i64 0)
  r2 : W.cell? ⟨w.heap.size + 1, 2, none⟩ = some (.int .i64 0)
  r3 : W.cell? ⟨w.heap.size + 1, 3, none⟩ = some (.int .i64 0)
  z0 : W.frozen? ⟨w.heap.size + 1, 0, none⟩ = false
  z1 : W.frozen? ⟨w.heap.size + 1, 1, none⟩ = false
  z2 : W.frozen? ⟨w.heap.size + 1, 2, none⟩ = false
  z3 : W.frozen? ⟨w.heap.size + 1, 3, none⟩ = false
theorem LookBox.later {w W W' : World} {a : Option Addr} {len cap : Nat} {a' : Option Addr} {np cap' : Nat} {c : Option Addr} {nc bT bS : Nat} (h : LookBox w W a len cap a' np cap' c nc bT bS) (hb : Below W.heap.size W W') : LookBox w W' a len cap a' np cap' c nc bT bS :=
  ⟨cellLater hb h.h0, cellLater hb h.h1, cellLater hb h.h2, cellLater hb h.h3, cellLater hb h.h4, cellLater hb h.r0, cellLater hb h.r1, cellLater hb h.r2, cellLater hb h.r3, frozenLater hb h.r0 h.z0, frozenLater hb h.r1 h.z1, frozenLater hb h.r2 h.z2, frozenLater hb h.r3 h.z3⟩
theorem LookBox.new (w : World) (a : Option Addr) (len cap : Nat) (a' : Option Addr) (np cap' : Nat) (c : Option Addr) (nc bT bS : Nat) (t t' : TypeId) :
    LookBox w ((w.alloc (.cells #[.slice a' np cap', .slice c np nc, .slice a len cap, .map (some bT), .map (some bS)] t)).alloc (.cells #[.int .i64 0, .int .i64 0, .int .i64 0, .int .i64 0] t')) a len cap a' np cap' c nc bT bS := by
  obtain ⟨⟨y0, y1, y2, y3, y4⟩, _⟩ := box5 (Go.heap_alloc_new w (.cells #[.slice a' np cap', .slice c np nc, .slice a len cap, .map (some bT), .map (some bS)] t))
  refine ⟨cellLater (b1 _ _) y0, cellLater (b1 _ _) y1, cellLater (b1 _ _) y2, cellLater (b1 _ _) y3, cellLater (b1 _ _) y4, ?_, ?_, ?_, ?_, ?_, ?_, ?_, ?_⟩
  · rw [World.cell?_alloc_at _ _ _ _ (by simp)]; rfl
  · rw [World.cell?_alloc_at _ _ _ _ (by simp)]; rfl
  · rw [World.cell?_alloc_at _ _ _ _ (by simp)]; rfl
  · rw [World.cell?_alloc_at _ _ _ _ (by simp)]; rfl
  · rw [World.frozen?_alloc_at _ _ _ _ (by simp)]
  · rw [World.frozen?_alloc_at _ _ _ _ (by simp)]
  · rw [World.frozen?_alloc_at _ _ _ _ (by simp)]
  · rw [World.frozen?_alloc_at _ _ _ _ (by simp)]

set_option maxRecDepth 20000 in
set_option maxHeartbeats 4000000 in
theorem tooSoon_any (a : Option Addr) (len cap : Nat) (a' : Option Addr) (np cap' : Nat) (f : Nat → TrainD) (c : Option Addr) (nc bT bS : Nat) (P : Nat → RowD) (i k : Nat) (w : World)
    (hR : RightL len np f) (hQ : RightP np f np P) (hi : i < np) (hk : k < (f i).nl) (hT : IsTrains 0 w.heap.size w a' np f) (hP : IsRows 0 w.heap.size w c np P) (hC : Caps w c np) :
    Calls Tryz.prog 26 #[.agg #[.slice a' np cap', .slice c np nc, .slice a len cap, .map (some bT), .map (some bS)], .int .i64 i, .int .i64 k] w fun e w' => e = .returned (clashV (soonC f P i k)) ∧ Below w.heap.size w w' := by
  have hX := LookBox.new w a len cap a' np cap' c nc bT bS 62 33
  have hN := b2 w (.cells #[.slice a' np cap', .slice c np nc, .slice a len cap, .map (some bT), .map (some bS)] 62) (.cells #[.int .i64 0, .int .i64 0, .int .i64 0, .int .i64 0] 33)
  have htr := hR.tr
  have hRi := hR.train i hi
  have hnl := hRi.nl
  have hi' : (i : Int) < (np : Int) := by omega
  have hi0 : (0 : Int) ≤ (i : Int) := by omega
  have hk' : (k : Int) < ((f i).nl : Int) := by omega
  have hk0 : (0 : Int) ≤ (k : Int) := by omega
  obtain ⟨b, off, la, lc, rfl, _, hb, t0, t1, t2, t3, t4, hlg, _⟩ := hT i hi
  obtain ⟨bp, op, lp, lpc, rfl, _, hbp, p0, hin, _⟩ := hP i hi
  rw [hQ.row i hi] at p0 hin
  have hcap := hC.at hi p0
  have hkc : (k : Int) ≤ (lpc : Int) := by omega
  obtain ⟨bi, oi, rfl, _, hbi, q0⟩ := hin k hk
  have hin1 : IsInts 0 w.heap.size w (some ⟨bi, oi, none⟩) k (P i).s := fun j hj => hin j (by omega)
  replace t0 := cellLater hN t0
  replace t1 := cellLater hN t1
  replace t2 := cellLater hN t2
  replace t3 := cellLater hN t3
  replace t4 := cellLater hN t4
  replace p0 := cellLater hN p0
  replace q0 := cellLater hN q0
  replace hlg := hlg.grow hN.drew
  replace hin1 := hin1.grow hN.drew
  have y0 := hX.h0
  have y1 := hX.h1
  go_enter Tryz.func26, Tryz.ntmps26
  go_wp2
  refine nameW fun W hW => ?_
  rw [← hW] at hX hN t0 t1 t2 t3 t4 p0 q0 hlg hin1 y0 y1
  clear hW
  go_region_held3 (fun w' => w'.cell? ⟨w.heap.size, 0, none⟩ = some (.slice (some ⟨b, off, none⟩) np cap') ∧ w'.cell? ⟨b, off + i * 5, none⟩ = some (.int .i64 (f i).frm) ∧ w'.cell? ⟨b, off + i * 5 + 1, none⟩ = some (.int .i64 (f i).ready) ∧ w'.cell? ⟨b, off + i * 5 + 2, none⟩ = some (.int .i64 (f i).due) ∧ w'.cell? ⟨b, off + i * 5 + 3, none⟩ = some (.int .i64 (f i).weight) ∧ w'.cell? ⟨b, off + i * 5 + 4, none⟩ = some (.slice la (f i).nl lc) ∧ w'.cell? ⟨bi, oi + k, none⟩ = some (.int .i64 ((P i).s k))) (first | go_keep | (go_split_ands; refine ⟨?_, ?_, ?_, ?_, ?_, ?_, ?_⟩ <;> exact cellLater hB3 (by assumption))) ((first | (go_at_call 59; refine (soonest_any (f i) (P i).s k _ _ _ _ _ hk hRi (fun j hj => hQ.at0 i hi j (by omega)) hlg hin1).mono ?_; rintro e w3 ⟨rfl, hB3⟩)))
  replace hX := hX.later (Below.join (Below.refl _ _).drew (Nat.le_refl _) hB3)
  replace hN := Below.join hN.drew (Nat.le_refl _) hB3
  have r0 := hX.r0
  have r1 := hX.r1
  have r2 := hX.r2
  have r3 := hX.r3
  have z0 := hX.z0
  have z1 := hX.z1
  have z2 := hX.z2
  have z3 := hX.z3
  by_cases hbad : (P i).s k < readyR (f i) (P i).s k
  · have e1 : soonC f P i k = (2, (i : Int), (k : Int), 0) := by unfold soonC; rw [if_pos (by rw [← readyR_eq]; exact hbad)]
    go_wp2
    refine bodyPost_ret (v := .agg #[.int .i64 2, .int .i64 i, .int .i64 k, .int .i64 0]) (by simp [results, Tryz.results26, go_sem, r0, r1, r2, r3]) rfl ⟨by first | rfl | (rw [e1]; rfl), ?_⟩
    exact below_set4 hN (by omega) _ _ _ _
  · have e1 : soonC f P i k = (0, 0, 0, 0) := by unfold soonC; rw [if_neg (by rw [← readyR_eq]; exact hbad)]
    go_wp2
    refine bodyPost_ret (v := .agg #[.int .i64 0, .int .i64 0, .int .i64 0, .int .i64 0]) (by simp [results, Tryz.results26, go_sem, r0, r1, r2, r3]) rfl ⟨by first | rfl | (rw [e1]; rfl), ?_⟩
    exact below_set4 hN (by omega) _ _ _ _
end Go.Proofs.YtelickcfodcmaaaGreatDoor

namespace Go.Proofs.YtelickcfodcmaaaGreatDoor
open Go.RowKit

theorem find_first {p : HoldD → Bool} : ∀ {L : List HoldD} {r : Nat} {h : HoldD}, L[r]? = some h → p h = true → (∀ j x, j < r → L[j]? = some x → p x = false) → L.find? p = some h
  | [], r, h, e, _, _ => by simp at e
  | y :: L, 0, h, e, hp, _ => by
    have : y = h := by simpa using e
    subst this
    simp [hp]
  | y :: L, r + 1, h, e, hp, hall => by
    have hy := hall 0 y (by omega) (by simp)
    rw [List.find?_cons, hy]
    exact find_first (r := r) (by simpa using e) hp (fun j x hj hx => hall (j + 1) x (by omega) (by simpa using hx))
theorem find_no {p : HoldD → Bool} {L : List HoldD} (hall : ∀ j x, j < L.length → L[j]? = some x → p x = false) : L.find? p = none := by
  rw [List.find?_eq_none]
  intro x hx
  obtain ⟨j, hj, e⟩ := List.mem_iff_getElem.1 hx
  have := hall j x hj (by rw [List.getElem?_eq_getElem hj, e])
  simp [this]
theorem count_take {p : HoldD → Bool} {L : List HoldD} {r : Nat} {h : HoldD} (e : L[r]? = some h) : (L.take (r + 1)).countP p = (L.take r).countP p + if p h = true then 1 else 0 := by
  rw [List.take_add_one, e, List.countP_append]
  simp [List.countP_cons]

set_option maxRecDepth 20000 in
set_option maxHeartbeats 8000000 in
theorem trackTaken_any (a : Option Addr) (len cap : Nat) (g : Nat → Int) (gap : Int) (a' : Option Addr) (np cap' : Nat) (f : Nat → TrainD) (c : Option Addr) (nc b0 bT bS n : Nat) (mT mS : Int → Value) (LS : Int → List HoldD) (P : Nat → RowD) (i k : Nat) (w : World)
    (hR : RightL len np f) (hG : RightG len g gap np f) (hQ : RightP np f np P) (hi : i < np) (hk : k < (f i).nl) (hT : IsTrains 0 w.heap.size w a' np f) (hP : IsRows 0 w.heap.size w c np P) (hGr : Gr w b0 bT bS n mT mS (listT gap np f P) LS) :
    Calls Tryz.prog 27 #[.agg #[.slice a' np cap', .slice c np nc, .slice a len cap, .map (some bT), .map (some bS)], .int .i64 i, .int .i64 k] w fun e w' => e = .returned (clashV (takenC gap np f P i k)) ∧ Below w.heap.size w w' := by
  have hX := LookBox.new w a len cap a' np cap' c nc bT bS 62 33
  have hN := b2 w (.cells #[.slice a' np cap', .slice c np nc, .slice a len cap, .map (some bT), .map (some bS)] 62) (.cells #[.int .i64 0, .int .i64 0, .int .i64 0, .int .i64 0] 33)
  have htr := hR.tr
  have hRi := hR.train i hi
  have hnl := hRi.nl
  obtain ⟨x0, x1⟩ := trackOf_bd hR hG hi hk
  have hi' : (i : Int) < (np : Int) := by omega
  have hi0 : (0 : Int) ≤ (i : Int) := by omega
  have hk' : (k : Int) < ((f i).nl : Int) := by omega
  have hk0 : (0 : Int) ≤ (k : Int) := by omega
  obtain ⟨b, off, la, lc, rfl, _, hb, t0, t1, t2, t3, t4, hlg, _⟩ := hT i hi
  obtain ⟨bp, op, lp, lpc, rfl, _, hbp, p0, hin, _⟩ := hP i hi
  rw [hQ.row i hi] at p0 hin
  obtain ⟨bi, oi, rfl, _, hbi, q0⟩ := hin k hk
  replace t0 := cellLater hN t0
  replace t1 := cellLater hN t1
  replace t2 := cellLater hN t2
  replace t3 := cellLater hN t3
  replace t4 := cellLater hN t4
  replace p0 := cellLater hN p0
  replace q0 := cellLater hN q0
  replace hlg := hlg.grow hN.drew
  replace hGr := hGr.later hN
  have hll : (listT gap np f P (trackOf (f i) k)).length ≤ 10 := Nat.le_trans (allH_len f np) hG.legs
  have hE : takenC gap np f P i k = (match (listT gap np f P (trackOf (f i) k)).find? (hitB i ((P i).s k)) with | some h => (3, (i : Int), (k : Int), (h.tr : Int)) | none => (0, 0, 0, 0)) := rfl
  generalize takenC gap np f P i k = vv at hE ⊢
  go_enter Tryz.func27, Tryz.ntmps27
  go_wp2
  refine nameW fun W hW => ?_
  rw [← hW] at hX hN t0 t1 t2 t3 t4 p0 q0 hlg hGr
  clear hW
  obtain ⟨ha, hc, hv, hcs⟩ := isHolds_of (hGr.oT (trackOf (f i) k))
  have hlk : ∀ V : World, Below W.heap.size W V → (Instr.lookup 60 (.map (some bT)) (.int .i64 (trackOf (f i) k)) false).run Tryz.prog V = .ok (.slice ha (listT gap np f P (trackOf (f i) k)).length hc) V := fun V hV => by
    have := (hGr.kT.later hV).lookup Tryz.underlying3 Tryz.underlying60 (Tryz.zeroHolds _) (wf_small x0 x1)
    rw [hv] at this
    exact this
  generalize listT gap np f P (trackOf (f i) k) = L at hE hcs hlk hll
  clear hv
  have hS0 := And.intro (b := W.drew.cell? ⟨w.heap.size, 3, none⟩ = some (.map (some bT)) ∧ W.drew.cell? ⟨b, off + i * 5, none⟩ = some (.int .i64 (f i).frm) ∧ W.drew.cell? ⟨b, off + i * 5 + 1, none⟩ = some (.int .i64 (f i).ready) ∧ W.drew.cell? ⟨b, off + i * 5 + 2, none⟩ = some (.int .i64 (f i).due) ∧ W.drew.cell? ⟨b, off + i * 5 + 3, none⟩ = some (.int .i64 (f i).weight) ∧ W.drew.cell? ⟨b, off + i * 5 + 4, none⟩ = some (.slice la (f i).nl lc) ∧ (Instr.lookup 60 (.map (some bT)) (.int .i64 (trackOf (f i) k)) false).run Tryz.prog W.drew = .ok (.slice ha L.length hc) W.drew) (show W.drew.cell? ⟨w.heap.size, 0, none⟩ = some (.slice (some ⟨b, off, none⟩) np cap') from hX.h0) ⟨hX.h3, t0, t1, t2, t3, t4, hlk _ (Below.refl _ _).drew⟩
  go_region_held3 (fun w' => w'.cell? ⟨w.heap.size, 0, none⟩ = some (.slice (some ⟨b, off, none⟩) np cap') ∧ w'.cell? ⟨w.heap.size, 3, none⟩ = some (.map (some bT)) ∧ w'.cell? ⟨b, off + i * 5, none⟩ = some (.int .i64 (f i).frm) ∧ w'.cell? ⟨b, off + i * 5 + 1, none⟩ = some (.int .i64 (f i).ready) ∧ w'.cell? ⟨b, off + i * 5 + 2, none⟩ = some (.int .i64 (f i).due) ∧ w'.cell? ⟨b, off + i * 5 + 3, none⟩ = some (.int .i64 (f i).weight) ∧ w'.cell? ⟨b, off + i * 5 + 4, none⟩ = some (.slice la (f i).nl lc) ∧ (Instr.lookup 60 (.map (some bT)) (.int .i64 (trackOf (f i) k)) false).run Tryz.prog w' = .ok (.slice ha L.length hc) w') (first | exact hS0 | exact hS3) ((first | (go_at_call 57; refine (trackOf_any (f i) k _ _ _ hk hnl hlg).mono ?_; rintro e W3 ⟨rfl, hB3⟩; have hS3 := And.intro (cellLater hB3 hS0.1) (And.intro (cellLater hB3 hS0.2.1) (And.intro (cellLater hB3 hS0.2.2.1) (And.intro (cellLater hB3 hS0.2.2.2.1) (And.intro (cellLater hB3 hS0.2.2.2.2.1) (And.intro (cellLater hB3 hS0.2.2.2.2.2.1) (And.intro (cellLater hB3 hS0.2.2.2.2.2.2.1) (hlk _ (Below.join (Below.refl _ _).drew (Nat.le_refl _) hB3)))))))))))
  clear hlk hS0 hS3
  have hJ := Below.join (Below.refl W.heap.size W).drew (Nat.le_refl _) hB3
  replace hX := hX.later hJ
  replace hN := Below.join hN (Nat.le_refl _) hJ
  replace p0 := cellLater hJ p0
  replace q0 := cellLater hJ q0
  replace hcs : IsHolds W3 (.slice ha L.length hc) L := IsHolds.later ⟨ha, hc, rfl, hcs⟩ hJ
  clear t0 t1 t2 t3 t4 hlg hGr hB3 hJ
  go_wp2
  go_loopw [20] (fun rr wr => ∃ (r : Nat), r ≤ L.length ∧ rr = .int .i64 r ∧ (∀ j x, j < r → L[j]? = some x → hitB i ((P i).s k) x = false) ∧ Below W3.heap.size W3 wr) (fun rr _ => L.length - (intOf rr).toNat)
  case atStart => exact ⟨0, Nat.zero_le _, rfl, fun _ _ h => by omega, Below.refl _ _⟩
  case round =>
    obtain ⟨r, hr, rfl, hall, hB⟩ := hrel
    by_cases hlt : r < L.length
    · obtain ⟨h, hh⟩ : ∃ h, L[r]? = some h := ⟨L[r], List.getElem?_eq_getElem hlt⟩
      obtain ⟨_, _, e9, hcs9⟩ := hcs
      cases e9
      obtain ⟨gg, go, rfl, c0, c1, c2⟩ := hcs9 r h hh
      have hlt' : (r : Int) < (L.length : Int) := by omega
      have hr0 : (0 : Int) ≤ (r : Int) := by omega
      replace c0 := cellLater hB c0
      replace c1 := cellLater hB c1
      replace c2 := cellLater hB c2
      replace p0 := cellLater hB p0
      replace q0 := cellLater hB q0
      replace hX := hX.later hB
      have y1 := hX.h1
      have hA := b1 wr (.cells #[.int .i64 h.tr, .int .i64 h.frm, .int .i64 h.free] 78)
      obtain ⟨d0, d1, d2⟩ := new3 wr (.int .i64 h.tr) (.int .i64 h.frm) (.int .i64 h.free) 78
      replace p0 := cellLater hA p0
      replace q0 := cellLater hA q0
      replace y1 := cellLater hA y1
      replace hX := hX.later hA
      obtain ⟨ht, hf, hfr⟩ := h
      dsimp only at c0 c1 c2 d0 d1 d2 p0 q0 y1
      by_cases hne : ht = i
      · subst hne
        have hhit : hitB ht ((P ht).s k) ⟨ht, hf, hfr⟩ = false := hitB_own rfl
        have hne' : ((ht : Int) != (ht : Int)) = false := by simp
        go_wp2
        refine nameW fun V hV => ?_
        rw [← hV] at d0 d1 d2 p0 q0 y1 hA hX
        clear hV
        go_quiet (fail)
        go_wp2
        go_roundw
        case rel => exact ⟨r + 1, by omega, by go_num, fun j x hj hx => (by by_cases e : j = r; (· subst e; rw [hh] at hx; cases hx; exact hhit); (· exact hall j x (by omega) hx)), Below.join hB (Nat.le_refl _) (below_drewN hA _)⟩
        case measure => simp [intOf]; omega
      · have hhit := hitB_met (i := i) (t := (P i).s k) (h := ⟨ht, hf, hfr⟩) hne
        have hne' : ((ht : Int) != (i : Int)) = true := by simp; omega
        cases hm : metB i ((P i).s k) ⟨ht, hf, hfr⟩
        · rw [hm] at hhit
          have hmet := fun V => metBy_any ⟨ht, hf, hfr⟩ i ((P i).s k) V
          rw [hm] at hmet
          dsimp only at hmet
          clear hm
          go_wp2
          refine nameW fun V hV => ?_
          rw [← hV] at d0 d1 d2 p0 q0 y1 hA hX
          clear hV
          (go_region_held3 (fun w' => w'.cell? ⟨wr.heap.size, 0, none⟩ = some (.int .i64 ht) ∧ w'.cell? ⟨wr.heap.size, 1, none⟩ = some (.int .i64 hf) ∧ w'.cell? ⟨wr.heap.size, 2, none⟩ = some (.int .i64 hfr) ∧ w'.cell? ⟨w.heap.size, 1, none⟩ = some (.slice (some ⟨bp, op, none⟩) np nc) ∧ w'.cell? ⟨bp, op + i, none⟩ = some (.slice (some ⟨bi, oi, none⟩) (f i).nl lpc) ∧ w'.cell? ⟨bi, oi + k, none⟩ = some (.int .i64 ((P i).s k))) (first | go_keep | (go_split_ands; refine ⟨?_, ?_, ?_, ?_, ?_, ?_⟩ <;> exact cellLater hB4 (by assumption))) ((first | (go_at_call 60; refine (hmet _).mono ?_; rintro e W4 ⟨rfl, hB4⟩))))
          go_wp2
          go_roundw
          case rel => exact ⟨r + 1, by omega, by go_num, fun j x hj hx => (by by_cases e : j = r; (· subst e; rw [hh] at hx; cases hx; exact hhit); (· exact hall j x (by omega) hx)), Below.join (Below.join hB (Nat.le_refl _) hA.drew) (Nat.le_refl _) hB4⟩
          case measure => simp [intOf]; omega
        · rw [hm] at hhit
          have hmet := fun V => metBy_any ⟨ht, hf, hfr⟩ i ((P i).s k) V
          rw [hm] at hmet
          dsimp only at hmet
          clear hm
          rw [find_first hh hhit hall] at hE
          dsimp only at hE
          go_wp2
          refine nameW fun V hV => ?_
          rw [← hV] at d0 d1 d2 p0 q0 y1 hA hX
          clear hV
          (go_region_held3 (fun w' => w'.cell? ⟨wr.heap.size, 0, none⟩ = some (.int .i64 ht) ∧ w'.cell? ⟨wr.heap.size, 1, none⟩ = some (.int .i64 hf) ∧ w'.cell? ⟨wr.heap.size, 2, none⟩ = some (.int .i64 hfr) ∧ w'.cell? ⟨w.heap.size, 1, none⟩ = some (.slice (some ⟨bp, op, none⟩) np nc) ∧ w'.cell? ⟨bp, op + i, none⟩ = some (.slice (some ⟨bi, oi, none⟩) (f i).nl lpc) ∧ w'.cell? ⟨bi, oi + k, none⟩ = some (.int .i64 ((P i).s k))) (first | go_keep | (go_split_ands; refine ⟨?_, ?_, ?_, ?_, ?_, ?_⟩ <;> exact cellLater hB4 (by assumption))) ((first | (go_at_call 60; refine (hmet _).mono ?_; rintro e W4 ⟨rfl, hB4⟩))))
          have hJ4 := Below.join (Below.refl V.heap.size V).drew (Nat.le_refl _) hB4
          replace hX := hX.later hJ4
          replace d0 := cellLater hJ4 d0
          have r0 := hX.r0
          have r1 := hX.r1
          have r2 := hX.r2
          have r3 := hX.r3
          have z0 := hX.z0
          have z1 := hX.z1
          have z2 := hX.z2
          have z3 := hX.z3
          go_wp2
          refine bodyPost_ret (v := .agg #[.int .i64 3, .int .i64 i, .int .i64 k, .int .i64 ht]) (by simp [results, Tryz.results27, go_sem, r0, r1, r2, r3]) rfl ⟨by first | (rw [hE]; rfl) | (subst hE; rfl), ?_⟩
          exact below_set4 (Below.join (Below.join (Below.join hN (Nat.le_refl _) hB) (Nat.le_refl _) hA) (Nat.le_refl _) hJ4) (by omega) _ _ _ _
    · have hlt' : (L.length : Int) ≤ (r : Int) := by omega
      rw [find_no (fun j x hj hx => hall j x (by omega) hx)] at hE
      dsimp only at hE
      replace hX := hX.later hB
      have r0 := hX.r0
      have r1 := hX.r1
      have r2 := hX.r2
      have r3 := hX.r3
      have z0 := hX.z0
      have z1 := hX.z1
      have z2 := hX.z2
      have z3 := hX.z3
      clear hlt hr
      go_wp2
      refine bodyPost_ret (v := .agg #[.int .i64 0, .int .i64 0, .int .i64 0, .int .i64 0]) (by simp [results, Tryz.results27, go_sem, r0, r1, r2, r3]) rfl ⟨by first | (rw [hE]; rfl) | (subst hE; rfl), ?_⟩
      exact below_set4 (Below.join hN (Nat.le_refl _) hB) (by omega) _ _ _ _

set_option maxRecDepth 20000 in
set_option maxHeartbeats 8000000 in
theorem stationFull_any (a : Option Addr) (len cap : Nat) (g : Nat → Int) (gap : Int) (a' : Option Addr) (np cap' : Nat) (f : Nat → TrainD) (c : Option Addr) (nc b0 bT bS n : Nat) (mT mS : Int → Value) (LT : Int → List HoldD) (P : Nat → RowD) (i k : Nat) (w : World)
    (hR : RightL len np f) (hG : RightG len g gap np f) (hQ : RightP np f np P) (hi : i < np) (hk : k < (f i).nl) (hI : IsInts 0 w.heap.size w a len g) (hT : IsTrains 0 w.heap.size w a' np f) (hP : IsRows 0 w.heap.size w c np P) (hGr : Gr w b0 bT bS n mT mS LT (listS np f P)) :
    Calls Tryz.prog 28 #[.agg #[.slice a' np cap', .slice c np nc, .slice a len cap, .map (some bT), .map (some bS)], .int .i64 i, .int .i64 k] w fun e w' => e = .returned (clashV (fullC g np f P i k)) ∧ Below w.heap.size w w' := by
  have hX := LookBox.new w a len cap a' np cap' c nc bT bS 62 33
  have hN := b2 w (.cells #[.slice a' np cap', .slice c np nc, .slice a len cap, .map (some bT), .map (some bS)] 62) (.cells #[.int .i64 0, .int .i64 0, .int .i64 0, .int .i64 0] 33)
  have htr := hR.tr
  have hRi := hR.train i hi
  have hnl := hRi.nl
  obtain ⟨x0, x1⟩ := hR.to i hi k hk
  have hst := hR.st
  have hi' : (i : Int) < (np : Int) := by omega
  have hi0 : (0 : Int) ≤ (i : Int) := by omega
  have hk' : (k : Int) < ((f i).nl : Int) := by omega
  have hk0 : (0 : Int) ≤ (k : Int) := by omega
  obtain ⟨b, off, la, lc, rfl, _, hb, _, _, _, _, t4, hlg, _⟩ := hT i hi
  obtain ⟨bl, ol, rfl, _, hbl, g0, _, _⟩ := hlg k hk
  obtain ⟨bp, op, lp, lpc, rfl, _, hbp, p0, hin, _⟩ := hP i hi
  rw [hQ.row i hi] at p0 hin
  obtain ⟨bi, oi, rfl, _, hbi, q0⟩ := hin k hk
  have hE : fullC g np f P i k = if g ((f i).leg k).to.toNat < ((listS np f P ((f i).leg k).to).countP (metB i ((P i).s k)) : Int) then (4, (i : Int), (k : Int), 0) else (0, 0, 0, 0) := rfl
  generalize fullC g np f P i k = vv at hE ⊢
  obtain ⟨q, hq⟩ : ∃ q : Nat, ((f i).leg k).to = (q : Int) := ⟨((f i).leg k).to.toNat, by omega⟩
  rw [hq] at g0 hE x1
  rw [Int.toNat_natCast] at hE
  clear hq x0
  have hql : q < len := by omega
  obtain ⟨ba, oa, rfl, _, hba, w0⟩ := hI q hql
  have hll : (listS np f P (q : Int)).length ≤ 10 := Nat.le_trans (allH_len f np) hG.legs
  replace t4 := cellLater hN t4
  replace g0 := cellLater hN g0
  replace p0 := cellLater hN p0
  replace q0 := cellLater hN q0
  replace w0 := cellLater hN w0
  replace hGr := hGr.later hN
  obtain ⟨ha, hc, hv, hcs⟩ := isHolds_of (hGr.oS (q : Int))
  have hlk := hGr.kS.lookup Tryz.underlying3 Tryz.underlying60 (Tryz.zeroHolds _) (x := (q : Int)) (wf_small (by omega) (by omega))
  rw [hv] at hlk
  generalize listS np f P (q : Int) = L at hE hcs hlk hll
  clear hv hGr
  have y0 := hX.h0
  have y4 := hX.h4
  have hq0 : (0 : Int) ≤ (q : Int) := by omega
  go_enter Tryz.func28, Tryz.ntmps28
  go_wp2
  refine nameW fun W3 hW => ?_
  rw [← hW] at hX hN p0 q0 w0 hcs
  clear hW y0 y4 hlk t4 g0
  replace hcs : IsHolds W3 (.slice ha L.length hc) L := ⟨ha, hc, rfl, hcs⟩
  go_loopw [8, 26] (fun cc rr wr => ∃ (r : Nat), r ≤ L.length ∧ rr = .int .i64 r ∧ cc = .int .i64 ((L.take r).countP (metB i ((P i).s k)) : Nat) ∧ Below W3.heap.size W3 wr) (fun _ rr _ => L.length - (intOf rr).toNat)
  case atStart => exact ⟨0, Nat.zero_le _, rfl, by simp, Below.refl _ _⟩
  case round =>
    obtain ⟨r, hr, rfl, rfl, hB⟩ := hrel
    by_cases hlt : r < L.length
    · obtain ⟨h, hh⟩ : ∃ h, L[r]? = some h := ⟨L[r], List.getElem?_eq_getElem hlt⟩
      have hct := count_take (p := metB i ((P i).s k)) hh
      have hcl : (L.take r).countP (metB i ((P i).s k)) ≤ 10 := Nat.le_trans List.countP_le_length (by rw [List.length_take]; omega)
      obtain ⟨_, _, e9, hcs9⟩ := hcs
      cases e9
      obtain ⟨gg, go, rfl, c0, c1, c2⟩ := hcs9 r h hh
      have hlt' : (r : Int) < (L.length : Int) := by omega
      have hr0 : (0 : Int) ≤ (r : Int) := by omega
      replace c0 := cellLater hB c0
      replace c1 := cellLater hB c1
      replace c2 := cellLater hB c2
      have hA := b1 wr (.cells #[.int .i64 h.tr, .int .i64 h.frm, .int .i64 h.free] 78)
      obtain ⟨d0, d1, d2⟩ := new3 wr (.int .i64 h.tr) (.int .i64 h.frm) (.int .i64 h.free) 78
      replace p0 := cellLater hA (cellLater hB p0)
      replace q0 := cellLater hA (cellLater hB q0)
      have y1 := cellLater hA (cellLater hB hX.h1)
      obtain ⟨ht, hf, hfr⟩ := h
      dsimp only at c0 c1 c2 d0 d1 d2 hA p0 q0 y1
      have hmet := fun V => metBy_any ⟨ht, hf, hfr⟩ i ((P i).s k) V
      dsimp only at hmet
      generalize hcn : (L.take r).countP (metB i ((P i).s k)) = cn at hct hcl
      cases hm : metB i ((P i).s k) ⟨ht, hf, hfr⟩
      · rw [hm] at hmet hct
        simp only [Bool.false_eq_true, if_false, Nat.add_zero] at hct
        clear hm hcn
        go_wp2
        refine nameW fun V hV => ?_
        rw [← hV] at d0 d1 d2 p0 q0 y1 hA
        clear hV
        go_region_held3 (fun w' => w'.cell? ⟨wr.heap.size, 0, none⟩ = some (.int .i64 ht) ∧ w'.cell? ⟨wr.heap.size, 1, none⟩ = some (.int .i64 hf) ∧ w'.cell? ⟨wr.heap.size, 2, none⟩ = some (.int .i64 hfr) ∧ w'.cell? ⟨w.heap.size, 1, none⟩ = some (.slice (some ⟨bp, op, none⟩) np nc) ∧ w'.cell? ⟨bp, op + i, none⟩ = some (.slice (some ⟨bi, oi, none⟩) (f i).nl lpc) ∧ w'.cell? ⟨bi, oi + k, none⟩ = some (.int .i64 ((P i).s k))) (first | go_keep | (go_split_ands; refine ⟨?_, ?_, ?_, ?_, ?_, ?_⟩ <;> exact cellLater hB4 (by assumption))) ((first | (go_at_call 60; refine (hmet _).mono ?_; rintro e W4 ⟨rfl, hB4⟩)))
        go_wp2
        go_roundw
        case rel => exact ⟨r + 1, by omega, by go_num, by rw [hct], Below.join (Below.join hB (Nat.le_refl _) hA.drew) (Nat.le_refl _) hB4⟩
        case measure => simp [intOf]; omega
      · rw [hm] at hmet hct
        simp only [if_true] at hct
        clear hm hcn
        go_wp2
        refine nameW fun V hV => ?_
        rw [← hV] at d0 d1 d2 p0 q0 y1 hA
        clear hV
        go_region_held3 (fun w' => w'.cell? ⟨wr.heap.size, 0, none⟩ = some (.int .i64 ht) ∧ w'.cell? ⟨wr.heap.size, 1, none⟩ = some (.int .i64 hf) ∧ w'.cell? ⟨wr.heap.size, 2, none⟩ = some (.int .i64 hfr) ∧ w'.cell? ⟨w.heap.size, 1, none⟩ = some (.slice (some ⟨bp, op, none⟩) np nc) ∧ w'.cell? ⟨bp, op + i, none⟩ = some (.slice (some ⟨bi, oi, none⟩) (f i).nl lpc) ∧ w'.cell? ⟨bi, oi + k, none⟩ = some (.int .i64 ((P i).s k))) (first | go_keep | (go_split_ands; refine ⟨?_, ?_, ?_, ?_, ?_, ?_⟩ <;> exact cellLater hB4 (by assumption))) ((first | (go_at_call 60; refine (hmet _).mono ?_; rintro e W4 ⟨rfl, hB4⟩)))
        go_wp2
        go_roundw
        case rel => exact ⟨r + 1, by omega, by go_num, by rw [hct]; go_num, Below.join (Below.join hB (Nat.le_refl _) hA.drew) (Nat.le_refl _) hB4⟩
        case measure => simp [intOf]; omega
    · have hlt' : (L.length : Int) ≤ (r : Int) := by omega
      have hre : L.take r = L := List.take_of_length_le (by omega)
      rw [hre]
      replace hX := hX.later hB
      replace w0 := cellLater hB w0
      have y2 := hX.h2
      have r0 := hX.r0
      have r1 := hX.r1
      have r2 := hX.r2
      have r3 := hX.r3
      have z0 := hX.z0
      have z1 := hX.z1
      have z2 := hX.z2
      have z3 := hX.z3
      generalize L.countP (metB i ((P i).s k)) = cn at hE ⊢
      clear hlt hr hre hcs
      by_cases hbad : g q < (cn : Int)
      · rw [if_pos hbad] at hE
        have hbad' : (cn : Int) > g q := hbad
        go_wp2
        refine bodyPost_ret (v := .agg #[.int .i64 4, .int .i64 i, .int .i64 k, .int .i64 0]) (by simp [results, Tryz.results28, go_sem, r0, r1, r2, r3]) rfl ⟨by first | (rw [hE]; rfl) | (subst hE; rfl), ?_⟩
        exact below_set4 (Below.join hN (Nat.le_refl _) hB) (by omega) _ _ _ _
      · rw [if_neg hbad] at hE
        go_wp2
        refine bodyPost_ret (v := .agg #[.int .i64 0, .int .i64 0, .int .i64 0, .int .i64 0]) (by simp [results, Tryz.results28, go_sem, r0, r1, r2, r3]) rfl ⟨by first | (rw [hE]; rfl) | (subst hE; rfl), ?_⟩
        exact below_set4 (Below.join hN (Nat.le_refl _) hB) (by omega) _ _ _ _
end Go.Proofs.YtelickcfodcmaaaGreatDoor

namespace Go.Proofs.YtelickcfodcmaaaGreatDoor
open Go.RowKit

def firstC (np : Nat) (nl : Nat → Nat) (v : Nat → Nat → Int × Int × Int × Int) : Int × Int × Int × Int :=
  match first2 np nl (fun i k => decide ((v i k).1 = 0)) with
  | some (i, k) => v i k
  | none => (0, 0, 0, 0)
theorem firstC_none {np : Nat} {nl : Nat → Nat} {v : Nat → Nat → Int × Int × Int × Int} (h : ∀ j, j < np → ∀ m, m < nl j → v j m = (0, 0, 0, 0)) : firstC np nl v = (0, 0, 0, 0) := by
  unfold firstC
  rw [first2_none (fun j hj m hm => by rw [h j hj m hm]; rfl)]
theorem firstC_some {np : Nat} {nl : Nat → Nat} {v : Nat → Nat → Int × Int × Int × Int} {i k : Nat} (hi : i < np) (hk : k < nl i) (hb : (v i k).1 ≠ 0) (hrow : ∀ m, m < k → v i m = (0, 0, 0, 0)) (h : ∀ j, j < i → ∀ m, m < nl j → v j m = (0, 0, 0, 0)) : firstC np nl v = v i k := by
  unfold firstC
  rw [first2_some (p := fun i k => decide ((v i k).1 = 0)) hi hk (decide_eq_false hb) (fun m hm => by rw [hrow m hm]; rfl) (fun j hj m hm => by rw [h j hj m hm]; rfl)]

set_option maxRecDepth 20000 in
set_option maxHeartbeats 8000000 in
theorem firstSoon_any (a : Option Addr) (len cap : Nat) (a' : Option Addr) (np cap' : Nat) (f : Nat → TrainD) (c : Option Addr) (nc bT bS : Nat) (v : Nat → Nat → Int × Int × Int × Int) (w : World)
    (hR : RightL len np f) (hT : IsTrains 0 w.heap.size w a' np f) (hv : ∀ i k, i < np → k < (f i).nl → v i k = (0, 0, 0, 0) ∨ (v i k).1 ≠ 0)
    (hlook : ∀ (i k : Nat) (W : World), i < np → k < (f i).nl → Below w.heap.size w W → Calls Tryz.prog 26 #[.agg #[.slice a' np cap', .slice c np nc, .slice a len cap, .map (some bT), .map (some bS)], .int .i64 i, .int .i64 k] W fun e W' => e = .returned (clashV (v i k)) ∧ Below W.heap.size W W') :
    Calls Tryz.prog 25 #[.agg #[.slice a' np cap', .slice c np nc, .slice a len cap, .map (some bT), .map (some bS)], .func (.func 26) #[.agg #[.slice a' np cap', .slice c np nc, .slice a len cap, .map (some bT), .map (some bS)]] #[]] w fun e w' => e = .returned (clashV (firstC np (fun i => (f i).nl) v)) ∧ Below w.heap.size w w' := by
  have hX := LookBox.new w a len cap a' np cap' c nc bT bS 62 33
  have hN := b2 w (.cells #[.slice a' np cap', .slice c np nc, .slice a len cap, .map (some bT), .map (some bS)] 62) (.cells #[.int .i64 0, .int .i64 0, .int .i64 0, .int .i64 0] 33)
  have htr := hR.tr
  obtain ⟨vv, hE⟩ : ∃ vv, firstC np (fun i => (f i).nl) v = vv := ⟨_, rfl⟩
  rw [hE]
  go_enter Tryz.func25, Tryz.ntmps25
  go_wp2
  refine nameW fun W0 hW => ?_
  rw [← hW] at hX hN
  clear hW
  go_loopw [12] (fun ii wr => ∃ (i : Nat), i ≤ np ∧ ii = .int .i64 i ∧ (∀ j, j < i → ∀ m, m < (f j).nl → v j m = (0, 0, 0, 0)) ∧ LookBox w wr a len cap a' np cap' c nc bT bS ∧ Below w.heap.size w wr) (fun ii _ => np - (intOf ii).toNat)
  case atStart => exact ⟨0, Nat.zero_le _, rfl, fun _ h => by omega, hX, hN⟩
  case round =>
    clear hX hN
    obtain ⟨i, hi, rfl, hall, hX, hB⟩ := hrel
    by_cases hlt : i < np
    · obtain ⟨b, off, la, lc, rfl, _, hb, t0, t1, t2, t3, t4, hlg, _⟩ := hT i hlt
      have hnl := (hR.train i hlt).nl
      have hin' : (i : Int) < (np : Int) := by omega
      have hi0 : (0 : Int) ≤ (i : Int) := by omega
      replace t0 := cellLater hB t0
      replace t1 := cellLater hB t1
      replace t2 := cellLater hB t2
      replace t3 := cellLater hB t3
      replace t4 := cellLater hB t4
      have hA := b1 wr (.cells #[.int .i64 (f i).frm, .int .i64 (f i).ready, .int .i64 (f i).due, .int .i64 (f i).weight, .slice la (f i).nl lc] 72)
      go_wp2
      refine nameW fun V hV => ?_
      rw [← hV] at hA
      clear hV t0 t1 t2 t3 t4
      replace hX := hX.later hA
      replace hB := Below.join hB (Nat.le_refl _) hA
      clear hA
      go_loopw [20] (fun kk wr2 => ∃ (k : Nat), k ≤ (f i).nl ∧ kk = .int .i64 k ∧ (∀ m, m < k → v i m = (0, 0, 0, 0)) ∧ LookBox w wr2 a len cap (some ⟨b, off, none⟩) np cap' c nc bT bS ∧ Below w.heap.size w wr2) (fun kk _ => (f i).nl - (intOf kk).toNat)
      case atStart => exact ⟨0, Nat.zero_le _, rfl, fun _ h => by omega, hX, hB⟩
      case round =>
        clear hX hB
        obtain ⟨k, hk, rfl, hall2, hX, hB⟩ := hrel
        by_cases hlt2 : k < (f i).nl
        · have hkn : (k : Int) < ((f i).nl : Int) := by omega
          have hl := hlook i k wr hlt hlt2 hB
          rcases hv i k hlt hlt2 with hz | hz
          · rw [hz] at hl
            dsimp only [clashV] at hl
            go_wp2_with (go_at_call 26; refine hl.mono ?_; rintro _ W4 ⟨rfl, hB4⟩)
            go_roundw
            case rel => exact ⟨k + 1, by omega, by go_num, fun m hm => (by by_cases e : m = k; (· subst e; exact hz); (· exact hall2 m (by omega))), (hX.later hB4).later (b1 _ _), Below.join (Below.join hB (Nat.le_refl _) hB4) (Nat.le_refl _) (b1 _ _)⟩
            case measure => simp [intOf]; omega
          · have hve := hE.symm.trans (firstC_some (nl := fun i => (f i).nl) hlt hlt2 hz hall2 hall)
            generalize v i k = vq at hl hz hve
            obtain ⟨v0, v1, v2, v3⟩ := vq
            dsimp only at hz
            have hz' : (v0 == 0) = false := by simpa using hz
            dsimp only [clashV] at hl
            go_wp2_with (go_at_call 26; refine hl.mono ?_; rintro _ W4 ⟨rfl, hB4⟩; replace hX := hX.later hB4; have r0 := hX.r0; have r1 := hX.r1; have r2 := hX.r2; have r3 := hX.r3; have z0 := hX.z0; have z1 := hX.z1; have z2 := hX.z2; have z3 := hX.z3; have lw : w.heap.size + 1 < W4.heap.size := ltCell r0)
            refine bodyPost_ret (v := .agg #[.int .i64 v0, .int .i64 v1, .int .i64 v2, .int .i64 v3]) (by simp [results, Tryz.results25, go_sem, r0, r1, r2, r3, lw, World.cell?_alloc_lt]) rfl ⟨by first | (rw [hve]; rfl) | (subst hve; rfl), ?_⟩
            exact (below_set4 (Below.join hB (Nat.le_refl _) hB4) (by omega) _ _ _ _).alloc (by simp; omega) _
        · have hke : Hid (k = (f i).nl) := (by omega : k = (f i).nl)
          have hkn : ((f i).nl : Int) ≤ (k : Int) := by omega
          clear hlt2 hk
          go_wp2
          go_roundw
          case rel => exact ⟨i + 1, by omega, by go_num, fun j hj => (by by_cases e : j = i; (· subst e; intro m hm; exact hall2 m (by rw [hke.out]; exact hm)); (· exact hall j (by omega))), hX, hB⟩
          case measure => simp [intOf]; omega
    · have hie : Hid (i = np) := (by omega : i = np)
      have hin' : (np : Int) ≤ (i : Int) := by omega
      have hve := hE.symm.trans (firstC_none (nl := fun i => (f i).nl) (fun j hj => hall j (by rw [hie.out]; exact hj)))
      have r0 := hX.r0
      have r1 := hX.r1
      have r2 := hX.r2
      have r3 := hX.r3
      have z0 := hX.z0
      have z1 := hX.z1
      have z2 := hX.z2
      have z3 := hX.z3
      clear hlt hi hall
      go_wp2
      refine bodyPost_ret (v := .agg #[.int .i64 0, .int .i64 0, .int .i64 0, .int .i64 0]) (by simp [results, Tryz.results25, go_sem, r0, r1, r2, r3]) rfl ⟨by first | (rw [hve]; rfl) | (subst hve; rfl), ?_⟩
      exact below_set4 hB (by omega) _ _ _ _

set_option maxRecDepth 20000 in
set_option maxHeartbeats 8000000 in
theorem firstTaken_any (a : Option Addr) (len cap : Nat) (a' : Option Addr) (np cap' : Nat) (f : Nat → TrainD) (c : Option Addr) (nc bT bS : Nat) (v : Nat → Nat → Int × Int × Int × Int) (w : World)
    (hR : RightL len np f) (hT : IsTrains 0 w.heap.size w a' np f) (hv : ∀ i k, i < np → k < (f i).nl → v i k = (0, 0, 0, 0) ∨ (v i k).1 ≠ 0)
    (hlook : ∀ (i k : Nat) (W : World), i < np → k < (f i).nl → Below w.heap.size w W → Calls Tryz.prog 27 #[.agg #[.slice a' np cap', .slice c np nc, .slice a len cap, .map (some bT), .map (some bS)], .int .i64 i, .int .i64 k] W fun e W' => e = .returned (clashV (v i k)) ∧ Below W.heap.size W W') :
    Calls Tryz.prog 25 #[.agg #[.slice a' np cap', .slice c np nc, .slice a len cap, .map (some bT), .map (some bS)], .func (.func 27) #[.agg #[.slice a' np cap', .slice c np nc, .slice a len cap, .map (some bT), .map (some bS)]] #[]] w fun e w' => e = .returned (clashV (firstC np (fun i => (f i).nl) v)) ∧ Below w.heap.size w w' := by
  have hX := LookBox.new w a len cap a' np cap' c nc bT bS 62 33
  have hN := b2 w (.cells #[.slice a' np cap', .slice c np nc, .slice a len cap, .map (some bT), .map (some bS)] 62) (.cells #[.int .i64 0, .int .i64 0, .int .i64 0, .int .i64 0] 33)
  have htr := hR.tr
  obtain ⟨vv, hE⟩ : ∃ vv, firstC np (fun i => (f i).nl) v = vv := ⟨_, rfl⟩
  rw [hE]
  go_enter Tryz.func25, Tryz.ntmps25
  go_wp2
  refine nameW fun W0 hW => ?_
  rw [← hW] at hX hN
  clear hW
  go_loopw [12] (fun ii wr => ∃ (i : Nat), i ≤ np ∧ ii = .int .i64 i ∧ (∀ j, j < i → ∀ m, m < (f j).nl → v j m = (0, 0, 0, 0)) ∧ LookBox w wr a len cap a' np cap' c nc bT bS ∧ Below w.heap.size w wr) (fun ii _ => np - (intOf ii).toNat)
  case atStart => exact ⟨0, Nat.zero_le _, rfl, fun _ h => by omega, hX, hN⟩
  case round =>
    clear hX hN
    obtain ⟨i, hi, rfl, hall, hX, hB⟩ := hrel
    by_cases hlt : i < np
    · obtain ⟨b, off, la, lc, rfl, _, hb, t0, t1, t2, t3, t4, hlg, _⟩ := hT i hlt
      have hnl := (hR.train i hlt).nl
      have hin' : (i : Int) < (np : Int) := by omega
      have hi0 : (0 : Int) ≤ (i : Int) := by omega
      replace t0 := cellLater hB t0
      replace t1 := cellLater hB t1
      replace t2 := cellLater hB t2
      replace t3 := cellLater hB t3
      replace t4 := cellLater hB t4
      have hA := b1 wr (.cells #[.int .i64 (f i).frm, .int .i64 (f i).ready, .int .i64 (f i).due, .int .i64 (f i).weight, .slice la (f i).nl lc] 72)
      go_wp2
      refine nameW fun V hV => ?_
      rw [← hV] at hA
      clear hV t0 t1 t2 t3 t4
      replace hX := hX.later hA
      replace hB := Below.join hB (Nat.le_refl _) hA
      clear hA
      go_loopw [20] (fun kk wr2 => ∃ (k : Nat), k ≤ (f i).nl ∧ kk = .int .i64 k ∧ (∀ m, m < k → v i m = (0, 0, 0, 0)) ∧ LookBox w wr2 a len cap (some ⟨b, off, none⟩) np cap' c nc bT bS ∧ Below w.heap.size w wr2) (fun kk _ => (f i).nl - (intOf kk).toNat)
      case atStart => exact ⟨0, Nat.zero_le _, rfl, fun _ h => by omega, hX, hB⟩
      case round =>
        clear hX hB
        obtain ⟨k, hk, rfl, hall2, hX, hB⟩ := hrel
        by_cases hlt2 : k < (f i).nl
        · have hkn : (k : Int) < ((f i).nl : Int) := by omega
          have hl := hlook i k wr hlt hlt2 hB
          rcases hv i k hlt hlt2 with hz | hz
          · rw [hz] at hl
            dsimp only [clashV] at hl
            go_wp2_with (go_at_call 27; refine hl.mono ?_; rintro _ W4 ⟨rfl, hB4⟩)
            go_roundw
            case rel => exact ⟨k + 1, by omega, by go_num, fun m hm => (by by_cases e : m = k; (· subst e; exact hz); (· exact hall2 m (by omega))), (hX.later hB4).later (b1 _ _), Below.join (Below.join hB (Nat.le_refl _) hB4) (Nat.le_refl _) (b1 _ _)⟩
            case measure => simp [intOf]; omega
          · have hve := hE.symm.trans (firstC_some (nl := fun i => (f i).nl) hlt hlt2 hz hall2 hall)
            generalize v i k = vq at hl hz hve
            obtain ⟨v0, v1, v2, v3⟩ := vq
            dsimp only at hz
            have hz' : (v0 == 0) = false := by simpa using hz
            dsimp only [clashV] at hl
            go_wp2_with (go_at_call 27; refine hl.mono ?_; rintro _ W4 ⟨rfl, hB4⟩; replace hX := hX.later hB4; have r0 := hX.r0; have r1 := hX.r1; have r2 := hX.r2; have r3 := hX.r3; have z0 := hX.z0; have z1 := hX.z1; have z2 := hX.z2; have z3 := hX.z3; have lw : w.heap.size + 1 < W4.heap.size := ltCell r0)
            refine bodyPost_ret (v := .agg #[.int .i64 v0, .int .i64 v1, .int .i64 v2, .int .i64 v3]) (by simp [results, Tryz.results25, go_sem, r0, r1, r2, r3, lw, World.cell?_alloc_lt]) rfl ⟨by first | (rw [hve]; rfl) | (subst hve; rfl), ?_⟩
            exact (below_set4 (Below.join hB (Nat.le_refl _) hB4) (by omega) _ _ _ _).alloc (by simp; omega) _
        · have hke : Hid (k = (f i).nl) := (by omega : k = (f i).nl)
          have hkn : ((f i).nl : Int) ≤ (k : Int) := by omega
          clear hlt2 hk
          go_wp2
          go_roundw
          case rel => exact ⟨i + 1, by omega, by go_num, fun j hj => (by by_cases e : j = i; (· subst e; intro m hm; exact hall2 m (by rw [hke.out]; exact hm)); (· exact hall j (by omega))), hX, hB⟩
          case measure => simp [intOf]; omega
    · have hie : Hid (i = np) := (by omega : i = np)
      have hin' : (np : Int) ≤ (i : Int) := by omega
      have hve := hE.symm.trans (firstC_none (nl := fun i => (f i).nl) (fun j hj => hall j (by rw [hie.out]; exact hj)))
      have r0 := hX.r0
      have r1 := hX.r1
      have r2 := hX.r2
      have r3 := hX.r3
      have z0 := hX.z0
      have z1 := hX.z1
      have z2 := hX.z2
      have z3 := hX.z3
      clear hlt hi hall
      go_wp2
      refine bodyPost_ret (v := .agg #[.int .i64 0, .int .i64 0, .int .i64 0, .int .i64 0]) (by simp [results, Tryz.results25, go_sem, r0, r1, r2, r3]) rfl ⟨by first | (rw [hve]; rfl) | (subst hve; rfl), ?_⟩
      exact below_set4 hB (by omega) _ _ _ _

set_option maxRecDepth 20000 in
set_option maxHeartbeats 8000000 in
theorem firstFull_any (a : Option Addr) (len cap : Nat) (a' : Option Addr) (np cap' : Nat) (f : Nat → TrainD) (c : Option Addr) (nc bT bS : Nat) (v : Nat → Nat → Int × Int × Int × Int) (w : World)
    (hR : RightL len np f) (hT : IsTrains 0 w.heap.size w a' np f) (hv : ∀ i k, i < np → k < (f i).nl → v i k = (0, 0, 0, 0) ∨ (v i k).1 ≠ 0)
    (hlook : ∀ (i k : Nat) (W : World), i < np → k < (f i).nl → Below w.heap.size w W → Calls Tryz.prog 28 #[.agg #[.slice a' np cap', .slice c np nc, .slice a len cap, .map (some bT), .map (some bS)], .int .i64 i, .int .i64 k] W fun e W' => e = .returned (clashV (v i k)) ∧ Below W.heap.size W W') :
    Calls Tryz.prog 25 #[.agg #[.slice a' np cap', .slice c np nc, .slice a len cap, .map (some bT), .map (some bS)], .func (.func 28) #[.agg #[.slice a' np cap', .slice c np nc, .slice a len cap, .map (some bT), .map (some bS)]] #[]] w fun e w' => e = .returned (clashV (firstC np (fun i => (f i).nl) v)) ∧ Below w.heap.size w w' := by
  have hX := LookBox.new w a len cap a' np cap' c nc bT bS 62 33
  have hN := b2 w (.cells #[.slice a' np cap', .slice c np nc, .slice a len cap, .map (some bT), .map (some bS)] 62) (.cells #[.int .i64 0, .int .i64 0, .int .i64 0, .int .i64 0] 33)
  have htr := hR.tr
  obtain ⟨vv, hE⟩ : ∃ vv, firstC np (fun i => (f i).nl) v = vv := ⟨_, rfl⟩
  rw [hE]
  go_enter Tryz.func25, Tryz.ntmps25
  go_wp2
  refine nameW fun W0 hW => ?_
  rw [← hW] at hX hN
  clear hW
  go_loopw [12] (fun ii wr => ∃ (i : Nat), i ≤ np ∧ ii = .int .i64 i ∧ (∀ j, j < i → ∀ m, m < (f j).nl → v j m = (0, 0, 0, 0)) ∧ LookBox w wr a len cap a' np cap' c nc bT bS ∧ Below w.heap.size w wr) (fun ii _ => np - (intOf ii).toNat)
  case atStart => exact ⟨0, Nat.zero_le _, rfl, fun _ h => by omega, hX, hN⟩
  case round =>
    clear hX hN
    obtain ⟨i, hi, rfl, hall, hX, hB⟩ := hrel
    by_cases hlt : i < np
    · obtain ⟨b, off, la, lc, rfl, _, hb, t0, t1, t2, t3, t4, hlg, _⟩ := hT i hlt
      have hnl := (hR.train i hlt).nl
      have hin' : (i : Int) < (np : Int) := by omega
      have hi0 : (0 : Int) ≤ (i : Int) := by omega
      replace t0 := cellLater hB t0
      replace t1 := cellLater hB t1
      replace t2 := cellLater hB t2
      replace t3 := cellLater hB t3
      replace t4 := cellLater hB t4
      have hA := b1 wr (.cells #[.int .i64 (f i).frm, .int .i64 (f i).ready, .int .i64 (f i).due, .int .i64 (f i).weight, .slice la (f i).nl lc] 72)
      go_wp2
      refine nameW fun V hV => ?_
      rw [← hV] at hA
      clear hV t0 t1 t2 t3 t4
      replace hX := hX.later hA
      replace hB := Below.join hB (Nat.le_refl _) hA
      clear hA
      go_loopw [20] (fun kk wr2 => ∃ (k : Nat), k ≤ (f i).nl ∧ kk = .int .i64 k ∧ (∀ m, m < k → v i m = (0, 0, 0, 0)) ∧ LookBox w wr2 a len cap (some ⟨b, off, none⟩) np cap' c nc bT bS ∧ Below w.heap.size w wr2) (fun kk _ => (f i).nl - (intOf kk).toNat)
      case atStart => exact ⟨0, Nat.zero_le _, rfl, fun _ h => by omega, hX, hB⟩
      case round =>
        clear hX hB
        obtain ⟨k, hk, rfl, hall2, hX, hB⟩ := hrel
        by_cases hlt2 : k < (f i).nl
        · have hkn : (k : Int) < ((f i).nl : Int) := by omega
          have hl := hlook i k wr hlt hlt2 hB
          rcases hv i k hlt hlt2 with hz | hz
          · rw [hz] at hl
            dsimp only [clashV] at hl
            go_wp2_with (go_at_call 28; refine hl.mono ?_; rintro _ W4 ⟨rfl, hB4⟩)
            go_roundw
            case rel => exact ⟨k + 1, by omega, by go_num, fun m hm => (by by_cases e : m = k; (· subst e; exact hz); (· exact hall2 m (by omega))), (hX.later hB4).later (b1 _ _), Below.join (Below.join hB (Nat.le_refl _) hB4) (Nat.le_refl _) (b1 _ _)⟩
            case measure => simp [intOf]; omega
          · have hve := hE.symm.trans (firstC_some (nl := fun i => (f i).nl) hlt hlt2 hz hall2 hall)
            generalize v i k = vq at hl hz hve
            obtain ⟨v0, v1, v2, v3⟩ := vq
            dsimp only at hz
            have hz' : (v0 == 0) = false := by simpa using hz
            dsimp only [clashV] at hl
            go_wp2_with (go_at_call 28; refine hl.mono ?_; rintro _ W4 ⟨rfl, hB4⟩; replace hX := hX.later hB4; have r0 := hX.r0; have r1 := hX.r1; have r2 := hX.r2; have r3 := hX.r3; have z0 := hX.z0; have z1 := hX.z1; have z2 := hX.z2; have z3 := hX.z3; have lw : w.heap.size + 1 < W4.heap.size := ltCell r0)
            refine bodyPost_ret (v := .agg #[.int .i64 v0, .int .i64 v1, .int .i64 v2, .int .i64 v3]) (by simp [results, Tryz.results25, go_sem, r0, r1, r2, r3, lw, World.cell?_alloc_lt]) rfl ⟨by first | (rw [hve]; rfl) | (subst hve; rfl), ?_⟩
            exact (below_set4 (Below.join hB (Nat.le_refl _) hB4) (by omega) _ _ _ _).alloc (by simp; omega) _
        · have hke : Hid (k = (f i).nl) := (by omega : k = (f i).nl)
          have hkn : ((f i).nl : Int) ≤ (k : Int) := by omega
          clear hlt2 hk
          go_wp2
          go_roundw
          case rel => exact ⟨i + 1, by omega, by go_num, fun j hj => (by by_cases e : j = i; (· subst e; intro m hm; exact hall2 m (by rw [hke.out]; exact hm)); (· exact hall j (by omega))), hX, hB⟩
          case measure => simp [intOf]; omega
    · have hie : Hid (i = np) := (by omega : i = np)
      have hin' : (np : Int) ≤ (i : Int) := by omega
      have hve := hE.symm.trans (firstC_none (nl := fun i => (f i).nl) (fun j hj => hall j (by rw [hie.out]; exact hj)))
      have r0 := hX.r0
      have r1 := hX.r1
      have r2 := hX.r2
      have r3 := hX.r3
      have z0 := hX.z0
      have z1 := hX.z1
      have z2 := hX.z2
      have z3 := hX.z3
      clear hlt hi hall
      go_wp2
      refine bodyPost_ret (v := .agg #[.int .i64 0, .int .i64 0, .int .i64 0, .int .i64 0]) (by simp [results, Tryz.results25, go_sem, r0, r1, r2, r3]) rfl ⟨by first | (rw [hve]; rfl) | (subst hve; rfl), ?_⟩
      exact below_set4 hB (by omega) _ _ _ _
end Go.Proofs.YtelickcfodcmaaaGreatDoor

namespace Go.Proofs.YtelickcfodcmaaaGreatDoor
open Go.RowKit

def orC (v : Nat → Int × Int × Int × Int) : Int × Int × Int × Int :=
  if (v 0).1 ≠ 0 then v 0 else if (v 1).1 ≠ 0 then v 1 else if (v 2).1 ≠ 0 then v 2 else (0, 0, 0, 0)
theorem orC_at {v : Nat → Int × Int × Int × Int} {k : Nat} (hk : k < 3) (hz : (v k).1 ≠ 0) (h : ∀ j, j < k → v j = (0, 0, 0, 0)) : orC v = v k := by
  unfold orC
  match k, hk with
  | 0, _ => rw [if_pos hz]
  | 1, _ => rw [if_neg (by rw [h 0 (by omega)]; simp), if_pos hz]
  | 2, _ => rw [if_neg (by rw [h 0 (by omega)]; simp), if_neg (by rw [h 1 (by omega)]; simp), if_pos hz]
theorem orC_none {v : Nat → Int × Int × Int × Int} (h : ∀ j, j < 3 → v j = (0, 0, 0, 0)) : orC v = (0, 0, 0, 0) := by
  unfold orC
  rw [if_neg (by rw [h 0 (by omega)]; simp), if_neg (by rw [h 1 (by omega)]; simp), if_neg (by rw [h 2 (by omega)]; simp)]

/-- the answer's box and the zero value's -/
structure OrBox (w W : World) : Prop where
  r0 : W.cell? ⟨w.heap.size, 0, none⟩ = some (.int .i64 0)
  r1 : W.cell? ⟨w.heap.size, 1, none⟩ = some (.int .i64 0)
  r2 : W.cell? ⟨w.heap.size, 2, none⟩ = some (.int .i64 0)
  r3 : W.cell? ⟨w.heap.size, 3, none⟩ = some (.int .i64 0)
  z0 : W.frozen? ⟨w.heap.size, 0, none⟩ = false
  z1 : W.frozen? ⟨w.heap.size, 1, none⟩ = false
  z2 : W.frozen? ⟨w.heap.size, 2, none⟩ = false
  z3 : W.frozen? ⟨w.heap.size, 3, none⟩ = false
  n0 : W.cell? ⟨w.heap.size + 1, 0, none⟩ = some (.int .i64 0)
  n1 : W.cell? ⟨w.heap.size + 1, 1, none⟩ = some (.int .i64 0)
  n2 : W.cell? ⟨w.heap.size + 1, 2, none⟩ = some (.int .i64 0)
  n3 : W.cell? ⟨w.heap.size + 1, 3, none⟩ = some (.int .i64 0)
theorem OrBox.later {w W W' : World} (h : OrBox w W) (hb : Below W.heap.size W W') : OrBox w W' :=
  ⟨cellLater hb h.r0, cellLater hb h.r1, cellLater hb h.r2, cellLater hb h.r3, frozenLater hb h.r0 h.z0, frozenLater hb h.r1 h.z1, frozenLater hb h.r2 h.z2, frozenLater hb h.r3 h.z3, cellLater hb h.n0, cellLater hb h.n1, cellLater hb h.n2, cellLater hb h.n3⟩
theorem box4 (w : World) (x0 x1 x2 x3 : Value) (t : TypeId) : ((w.alloc (.cells #[x0, x1, x2, x3] t)).cell? ⟨w.heap.size, 0, none⟩ = some x0 ∧ (w.alloc (.cells #[x0, x1, x2, x3] t)).cell? ⟨w.heap.size, 1, none⟩ = some x1 ∧ (w.alloc (.cells #[x0, x1, x2, x3] t)).cell? ⟨w.heap.size, 2, none⟩ = some x2 ∧ (w.alloc (.cells #[x0, x1, x2, x3] t)).cell? ⟨w.heap.size, 3, none⟩ = some x3) ∧
    ((w.alloc (.cells #[x0, x1, x2, x3] t)).frozen? ⟨w.heap.size, 0, none⟩ = false ∧ (w.alloc (.cells #[x0, x1, x2, x3] t)).frozen? ⟨w.heap.size, 1, none⟩ = false ∧ (w.alloc (.cells #[x0, x1, x2, x3] t)).frozen? ⟨w.heap.size, 2, none⟩ = false ∧ (w.alloc (.cells #[x0, x1, x2, x3] t)).frozen? ⟨w.heap.size, 3, none⟩ = false) := by
  refine ⟨by simp, ?_, ?_, ?_, ?_⟩ <;> rw [World.frozen?_alloc_at _ _ _ _ rfl]
theorem OrBox.new (w : World) (t t' : TypeId) : OrBox w ((w.alloc (.cells #[.int .i64 0, .int .i64 0, .int .i64 0, .int .i64 0] t)).alloc (.cells #[.int .i64 0, .int .i64 0, .int .i64 0, .int .i64 0] t')) := by
  obtain ⟨⟨r0, r1, r2, r3⟩, z0, z1, z2, z3⟩ := box4 w (.int .i64 0) (.int .i64 0) (.int .i64 0) (.int .i64 0) t
  obtain ⟨⟨n0, n1, n2, n3⟩, _⟩ := box4 (w.alloc (.cells #[.int .i64 0, .int .i64 0, .int .i64 0, .int .i64 0] t)) (.int .i64 0) (.int .i64 0) (.int .i64 0) (.int .i64 0) t'
  have hb := b1 (w.alloc (.cells #[.int .i64 0, .int .i64 0, .int .i64 0, .int .i64 0] t)) (.cells #[.int .i64 0, .int .i64 0, .int .i64 0, .int .i64 0] t')
  have es : (w.alloc (.cells #[.int .i64 0, .int .i64 0, .int .i64 0, .int .i64 0] t)).heap.size = w.heap.size + 1 := by simp
  rw [es] at n0 n1 n2 n3
  exact ⟨cellLater hb r0, cellLater hb r1, cellLater hb r2, cellLater hb r3, frozenLater hb r0 z0, frozenLater hb r1 z1, frozenLater hb r2 z2, frozenLater hb r3 z3, n0, n1, n2, n3⟩

set_option maxRecDepth 20000 in
set_option maxHeartbeats 8000000 in
theorem or_any (b off cap : Nat) (v : Nat → Int × Int × Int × Int) (w : World) (hv : ∀ k, k < 3 → v k = (0, 0, 0, 0) ∨ (v k).1 ≠ 0)
    (hc : ∀ k, k < 3 → w.cell? ⟨b, off + k * 4, none⟩ = some (.int .i64 (v k).1) ∧ w.cell? ⟨b, off + k * 4 + 1, none⟩ = some (.int .i64 (v k).2.1) ∧ w.cell? ⟨b, off + k * 4 + 2, none⟩ = some (.int .i64 (v k).2.2.1) ∧ w.cell? ⟨b, off + k * 4 + 3, none⟩ = some (.int .i64 (v k).2.2.2)) :
    Calls Tryz.prog 24 #[.slice (some ⟨b, off, none⟩) 3 cap] w fun e w' => e = .returned (clashV (orC v)) ∧ Below w.heap.size w w' := by
  have hX := OrBox.new w 33 33
  have hN := b2 w (.cells #[.int .i64 0, .int .i64 0, .int .i64 0, .int .i64 0] 33) (.cells #[.int .i64 0, .int .i64 0, .int .i64 0, .int .i64 0] 33)
  obtain ⟨vv, hE⟩ : ∃ vv, orC v = vv := ⟨_, rfl⟩
  rw [hE]
  go_enter Tryz.func24, Tryz.ntmps24
  go_wp2
  refine nameW fun W0 hW => ?_
  rw [← hW] at hX hN
  clear hW
  go_loopw [8] (fun kk wr => ∃ (k : Nat), k ≤ 3 ∧ kk = .int .i64 k ∧ (∀ j, j < k → v j = (0, 0, 0, 0)) ∧ OrBox w wr ∧ Below w.heap.size w wr) (fun kk _ => 3 - (intOf kk).toNat)
  case atStart => exact ⟨0, Nat.zero_le _, rfl, fun _ h => by omega, hX, hN⟩
  case round =>
    clear hX hN
    obtain ⟨k, hk, rfl, hall, hX, hB⟩ := hrel
    have n0 := hX.n0
    have n1 := hX.n1
    have n2 := hX.n2
    have n3 := hX.n3
    have ln : w.heap.size + 1 < wr.heap.size := ltCell n0
    by_cases hlt : k < 3
    · have hlt' : (k : Int) < 3 := by omega
      have hk0 : (0 : Int) ≤ (k : Int) := by omega
      obtain ⟨c0, c1, c2, c3⟩ := hc k hlt
      replace c0 := cellLater hB c0
      replace c1 := cellLater hB c1
      replace c2 := cellLater hB c2
      replace c3 := cellLater hB c3
      rcases hv k hlt with hz | hz
      · rw [hz] at c0 c1 c2 c3
        dsimp only at c0 c1 c2 c3
        go_wp2
        go_roundw
        case rel => exact ⟨k + 1, by omega, by go_num, fun j hj => (by by_cases e : j = k; (· subst e; exact hz); (· exact hall j (by omega))), hX.later (b1 _ _), Below.join hB (Nat.le_refl _) (b1 _ _)⟩
        case measure => simp [intOf]; omega
      · have hve := hE.symm.trans (orC_at hlt hz hall)
        generalize v k = vq at c0 c1 c2 c3 hz hve
        obtain ⟨v0, v1, v2, v3⟩ := vq
        dsimp only at c0 c1 c2 c3 hz
        have hz' : (v0 == 0) = false := by simpa using hz
        have r0 := hX.r0
        have r1 := hX.r1
        have r2 := hX.r2
        have r3 := hX.r3
        have z0 := hX.z0
        have z1 := hX.z1
        have z2 := hX.z2
        have z3 := hX.z3
        have lw : w.heap.size < wr.heap.size := ltCell r0
        go_wp2
        refine bodyPost_ret (v := .agg #[.int .i64 v0, .int .i64 v1, .int .i64 v2, .int .i64 v3]) (by simp [results, Tryz.results24, go_sem, r0, r1, r2, r3, lw, World.cell?_alloc_lt]) rfl ⟨by first | (rw [hve]; rfl) | (subst hve; rfl), ?_⟩
        exact (below_set4 hB (by omega) _ _ _ _).alloc (by simp; omega) _
    · have hlt' : (3 : Int) ≤ (k : Int) := by omega
      have hve := hE.symm.trans (orC_none (fun j hj => hall j (by omega)))
      have r0 := hX.r0
      have r1 := hX.r1
      have r2 := hX.r2
      have r3 := hX.r3
      have z0 := hX.z0
      have z1 := hX.z1
      have z2 := hX.z2
      have z3 := hX.z3
      clear hlt hk
      go_wp2
      refine bodyPost_ret (v := .agg #[.int .i64 0, .int .i64 0, .int .i64 0, .int .i64 0]) (by simp [results, Tryz.results24, go_sem, r0, r1, r2, r3]) rfl ⟨by first | (rw [hve]; rfl) | (subst hve; rfl), ?_⟩
      exact below_set4 hB (by omega) _ _ _ _
end Go.Proofs.YtelickcfodcmaaaGreatDoor
