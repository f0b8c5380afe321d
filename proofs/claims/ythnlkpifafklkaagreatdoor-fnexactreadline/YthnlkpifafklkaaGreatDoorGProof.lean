/-
  The law of ReadLine: what is told is compared, written over, and read again.
  The law of ReadLine: walked.
  The statement of ReadLine's law: the row, and its card.
-/
import Derived.Test.YthnlkpifafklkaaGreatDoorReadL
import Derived.Test.YthnlkpifafklkaaGreatDoorGMark
import Derived.Test.YthnlkpifafklkaaGreatDoorGSpecF
import Derived.Test.YthnlkpifafklkaaGreatDoorGReadZ
import Derived.Test.YthnlkpifafklkaaGreatDoorGLaid
import Derived.ChangeVars
import Derived.Deep.DeepWitnessRowRef
namespace Go.Proofs.YthnlkpifafklkaaGreatDoor
open Go.RowKit

/-- as LOwn, and the rows' blocks lie below hi -/
structure LOwnH (hi B0 : Nat) (W : World) (tr : List Int) (L : List TrV) (vt vT : Value) : Prop where
  own : LOwn B0 W tr L vt vT
  lt : Low hi vt
  lT : Low hi vT
  ls : ∀ x ∈ L, Low hi x.2
theorem LOwn.high {B0 : Nat} {W : World} {tr : List Int} {L : List TrV} {vt vT : Value} (h : LOwn B0 W tr L vt vT) : LOwnH W.heap.size B0 W tr L vt vT :=
  ⟨h, fun _ hk => (h.ints.lt _ hk).2, fun _ hk => (h.trs.lt (Or.inl hk)).2, fun x hx _ hk => (h.trs.lt (Or.inr ⟨x, hx, hk⟩)).2⟩
theorem LOwnH.later {hi B0 : Nat} {W W' : World} {tr : List Int} {L : List TrV} {vt vT : Value} (h : LOwnH hi B0 W tr L vt vT) (hB : Below W.heap.size W W') : LOwnH hi B0 W' tr L vt vT := ⟨h.own.later hB, h.lt, h.lT, h.ls⟩
/-- the numbers that a mark lays -/
structure MarkedL (W : World) (tr : Nat) (L : List TrV) (at_ aT : Option Addr) : Prop where
  ints : IsInts 0 W.heap.size W at_ tr (fun j => 1 + j)
  trs : IsTrains 0 W.heap.size W aT L.length (markT (1 + tr) (nlOf L))
theorem MarkedL.later {W W' : World} {tr : Nat} {L : List TrV} {at_ aT : Option Addr} (h : MarkedL W tr L at_ aT) (hB : Below W.heap.size W W') : MarkedL W' tr L at_ aT := ⟨h.ints.grow hB, h.trs.grow hB⟩
theorem IsInts.mark {lo hi : Nat} {W : World} {a : Option Addr} {n : Nat} {f : Nat → Int} (h : IsInts lo hi W a n f) : IsInts 0 W.heap.size W a n f := fun j hj => by
  obtain ⟨b, off, e, _, _, hc⟩ := h j hj
  exact ⟨b, off, e, Nat.zero_le _, ltCell hc, hc⟩

set_option maxRecDepth 20000 in
set_option maxHeartbeats 4000000 in
theorem markLineO_any (hi0 B0 : Nat) (tr : List Int) (gap : Int) (L : List TrV) (at_ : Option Addr) (ct : Nat) (aT : Option Addr) (cT : Nat) (w : World) (hl1 : tr.length ≤ 39) (hl2 : L.length ≤ 5000) (hl3 : ∀ x ∈ L, x.1.legs.length ≤ 5000) (hh : B0 ≤ hi0) (hb0 : hi0 ≤ w.heap.size) (hO : LOwnH hi0 B0 w tr L (.slice at_ tr.length ct) (.slice aT L.length cT)) :
    Calls Tryz.prog 14 #[.agg #[.slice at_ tr.length ct, .int .i64 gap, .slice aT L.length cT], .int .i64 1] w fun e w' => e = .returned (.int .i64 (1 + tr.length + qT (nlOf L) L.length)) ∧ MarkedL w' tr.length L at_ aT ∧ Mid B0 hi0 w w' := by
  have hb := b1 w (.cells #[.slice at_ tr.length ct, .int .i64 gap, .slice aT L.length cT] 35)
  obtain ⟨n0, n1, n2⟩ := new3 w (.slice at_ tr.length ct) (.int .i64 gap) (.slice aT L.length cT) 35
  have hO1 := hO.later hb
  have hpost : ∃ lo hi, B0 ≤ lo ∧ hi ≤ hi0 ∧ Soft lo hi (w.alloc (.cells #[.slice at_ tr.length ct, .int .i64 gap, .slice aT L.length cT] 35)) at_ tr.length ∧ ∀ W', Mid lo hi (w.alloc (.cells #[.slice at_ tr.length ct, .int .i64 gap, .slice aT L.length cT] 35)) W' → OwnT B0 W' (.slice aT L.length cT) L := by
    rcases hO1.own.ints.2 with ⟨e, e0⟩ | ⟨g, cap, cur, e, hbg, hg, _⟩
    · refine ⟨B0, B0, Nat.le_refl _, hh, fun i hi => by omega, fun W' hM => hO1.own.trs.same (fun k hk => hM.above k (hO1.own.trs.lt hk).1 (hO1.own.trs.lt hk).2)⟩
    · cases e
      have hgl := hO1.lt g rfl
      refine ⟨g, g + 1, hbg, hgl, fun i hi => ?_, fun W' hM => hO1.own.trs.same (fun k hk => ?_)⟩
      · have hlen := hO1.own.ints.1
        exact ⟨g, 0, _, rfl, Nat.le_refl _, Nat.lt_succ_self _, by rw [Nat.zero_add, World.ownsRow.cellAt hO1.own.ints i (by omega)]; exact List.getElem?_eq_getElem (by omega), by rw [Nat.zero_add]; exact World.ownsRow.frozenAt hO1.own.ints i⟩
      · have hne : k ≠ g := fun e2 => by
          rcases hk with hk | ⟨x, hx, hk⟩
          · exact hO1.own.off g rfl (by rw [hk, e2])
          · exact hO1.own.offs x hx g rfl (by rw [hk, e2])
        have hk9 := (hO1.own.trs.lt hk).2
        rcases Nat.lt_or_ge k g with h2 | h2
        · exact hM.below.block k h2
        · exact hM.above k (by omega) hk9
  obtain ⟨lo, hi, hlo, hhi, hS, hT⟩ := hpost
  have hc1 := markIntS_any at_ tr.length ct 1 _ lo hi (by omega) (by decide) (by decide) hS
  have hoffs : ∀ k, (Value.slice at_ tr.length ct).ownBlock = some k → (Value.slice aT L.length cT).ownBlock ≠ some k ∧ ∀ x ∈ L, x.2.ownBlock ≠ some k := fun k hk => ⟨hO.own.off k hk, fun x hx => hO.own.offs x hx k hk⟩
  have hc2 := fun W (h : OwnT B0 W (.slice aT L.length cT) L) => markTrainSO_any hi0 B0 aT cT L (1 + tr.length) W hl2 hl3 (by omega) (by omega) hh h hO.lT hO.ls
  have hT' : Hid _ := hT
  have hoffs' : Hid _ := hoffs
  clear hT hoffs hO1 hS
  go_enter Tryz.func14, Tryz.ntmps14
  go_wp2_with (first | (go_at_call 15; refine hc1.mono ?_; rintro e w2 ⟨rfl, hI2, hM2⟩; replace n2 := hM2.cellAbove (by omega) n2) | (go_at_call 41; refine (hc2 w2 (hT'.out w2 hM2)).mono ?_; rintro e w3 ⟨rfl, hI3, hM3, hk3⟩))
  go_ret
  refine ⟨rfl, ⟨fun j hj => ?_, hI3⟩, ((Mid.ofBelow (lo := B0) (hi := hi0) hb (by omega)).trans (hM2.mono hlo hhi)).trans hM3⟩
  obtain ⟨b, off, e, _, _, hc⟩ := hI2 j hj
  have hob : (Value.slice at_ tr.length ct).ownBlock = some b := by rw [e]; rfl
  have hc3 := hk3 b _ _ (hoffs'.out b hob).1 (hoffs'.out b hob).2 hc
  exact ⟨b, off, e, Nat.zero_le _, ltCell hc3, hc3⟩

set_option maxHeartbeats 2000000 in
theorem heldLineO_any (tr : Nat) (gap : Int) (L : List TrV) (at_ : Option Addr) (ct : Nat) (aT : Option Addr) (cT : Nat) (w : World) (hl1 : tr ≤ 39) (hl2 : L.length ≤ 5000) (hl3 : ∀ x ∈ L, x.1.legs.length ≤ 5000) (hM : MarkedL w tr L at_ aT) :
    Calls Tryz.prog 48 #[.agg #[.slice at_ tr ct, .int .i64 gap, .slice aT L.length cT], .int .i64 1] w fun e w' => e = .returned (.int .i64 (1 + tr + qT (nlOf L) L.length)) ∧ Below w.heap.size w w' := by
  have hnl : ∀ j, j < L.length → nlOf L j ≤ 5000 := fun j hj => by rw [nlOf_at (List.getElem?_eq_getElem hj)]; exact hl3 _ (List.getElem_mem hj)
  have hb := b1 w (.cells #[.slice at_ tr ct, .int .i64 gap, .slice aT L.length cT] 35)
  obtain ⟨n0, n1, n2⟩ := new3 w (.slice at_ tr ct) (.int .i64 gap) (.slice aT L.length cT) 35
  have hM1 := hM.later hb
  have hc1 := heldIntS_any at_ tr ct 1 _ 0 _ (by omega) (by decide) (by decide) hM1.ints
  have hc2 := fun W (h : IsTrains 0 W.heap.size W aT L.length (markT (1 + tr) (nlOf L))) => heldTrainS_any aT L.length cT (nlOf L) (1 + tr) W hl2 hnl (by omega) (by omega) h
  have hp1 : ¬ ((1 : Int) + (tr : Int) < 0) := by omega
  have hp2 : ¬ ((1 : Int) + (tr : Int) + (qT (nlOf L) L.length : Int) < 0) := by omega
  have hts := hM1.trs
  clear hM1 hM hnl
  go_enter Tryz.func48, Tryz.ntmps48
  go_wp2_with (first | (go_at_call 80; refine hc1.mono ?_; rintro e w2 ⟨rfl, hB2⟩; replace n2 := cellLater hB2 n2) | (go_at_call 81; refine (hc2 w2 (hts.grow hB2)).mono ?_; rintro e w3 ⟨rfl, hB3⟩))
  go_ret
  exact ⟨rfl, Below.join (Below.join hb (Nat.le_refl _) hB2) (Nat.le_refl _) hB3⟩

/-- what both answer, by what is told -/
def ToldIs (c n : Int) (l : LnL) (w : World) (e : Ending) (w' : World) : Prop := ∃ L at_ ct aT cT, l.trains = L.map Prod.fst ∧ e = .returned (.agg #[.int .i64 c, .int .i64 n, .slice at_ l.tracks.length ct, .int .i64 l.gap, .slice aT L.length cT]) ∧
  LOwn w.heap.size w' l.tracks L (.slice at_ l.tracks.length ct) (.slice aT L.length cT) ∧ l.tracks.length ≤ 39 ∧ L.length ≤ 5000 ∧ (∀ x ∈ L, x.1.legs.length ≤ 5000) ∧ Below w.heap.size w w'
theorem ToldPost.is {s : Bs} {w w' : World} {e : Ending} {c n : Int} {l : LnL} (h : ToldPost s w e w') (ht : toldOf s = (c, n, l)) : ToldIs c n l w e w' := by
  obtain ⟨tr, gap, L, at_, ct, aT, cT, h1, h2, h3⟩ := h
  rw [ht] at h1 h2
  dsimp only at h1 h2
  subst h1
  exact ⟨L, at_, ct, aT, cT, rfl, h2, h3⟩
/-- a line's data, read -/
structure IsL (m n : Nat) (W : World) (l : LnL) (at_ aT : Option Addr) : Prop where
  ints : IsInts m n W at_ l.tracks.length (gI l.tracks)
  trs : IsTrains m n W aT l.trains.length (fT l.trains)
theorem LOwn.isL {B0 : Nat} {W : World} {l : LnL} {L : List TrV} {at_ : Option Addr} {ct : Nat} {aT : Option Addr} {cT : Nat} (h : LOwn B0 W l.tracks L (.slice at_ l.tracks.length ct) (.slice aT L.length cT)) (hl : l.trains = L.map Prod.fst) (h3 : ∀ x ∈ L, x.1.legs.length ≤ 5000) : IsL B0 W.heap.size W l at_ aT := by
  obtain ⟨a1, c1, e1, hI⟩ := ownInts h.ints
  obtain ⟨a2, c2, e2, hT⟩ := h.trs.trains (fun x hx => by have := h3 x hx; unfold maxLen; omega)
  cases e1
  cases e2
  exact ⟨hI, by rw [hl, List.length_map]; exact hT⟩
theorem legs_le {l : LnL} {L : List TrV} (hl : l.trains = L.map Prod.fst) (h3 : ∀ x ∈ L, x.1.legs.length ≤ 5000) : ∀ j, j < l.trains.length → (fT l.trains j).nl ≤ 1048576 := fun j hj => by
  rw [hl, List.length_map] at hj
  have hf : fT l.trains j = trD L[j].1 := by rw [hl]; unfold fT; rw [List.getD_eq_getElem?_getD, List.getElem?_map, List.getElem?_eq_getElem hj]; rfl
  rw [hf]
  have := h3 _ (List.getElem_mem hj)
  show L[j].1.legs.length ≤ 1048576
  omega

set_option maxHeartbeats 2000000 in
theorem eqTold_same (c n : Int) (l : LnL) (a a' b b' : Option Addr) (k1 k2 k3 k4 : Nat) (w : World) (h1 : l.tracks.length ≤ 39) (h2 : l.trains.length ≤ 5000) (h3 : ∀ j, j < l.trains.length → (fT l.trains j).nl ≤ 1048576) (hI : IsL 0 w.heap.size w l a a') (hJ : IsL 0 w.heap.size w l b b') :
    Calls Tryz.prog 20 #[.agg #[.int .i64 c, .int .i64 n, .slice a l.tracks.length k1, .int .i64 l.gap, .slice a' l.trains.length k2], .agg #[.int .i64 c, .int .i64 n, .slice b l.tracks.length k3, .int .i64 l.gap, .slice b' l.trains.length k4]] w fun e w' => e = .returned (.bool true) ∧ Below w.heap.size w w' := by
  have hb := b2 w (.cells #[.int .i64 c, .int .i64 n, .slice a l.tracks.length k1, .int .i64 l.gap, .slice a' l.trains.length k2] 46) (.cells #[.int .i64 c, .int .i64 n, .slice b l.tracks.length k3, .int .i64 l.gap, .slice b' l.trains.length k4] 46)
  have hc := eqLine_same a l.tracks.length k1 (gI l.tracks) l.gap a' l.trains.length k2 (fT l.trains) b b' k3 k4 _ (by omega) (by omega) h3 (hI.ints.grow hb) (hI.trs.grow hb) (hJ.ints.grow hb) (hJ.trs.grow hb)
  clear h3 hI hJ
  generalize l.tracks.length = t1 at *
  generalize l.trains.length = t2 at *
  generalize l.gap = gp at *
  go_enter Tryz.func20, Tryz.ntmps20
  go_wp2_with (go_at_call 12; refine hc.mono ?_; rintro _ w2 ⟨rfl, hB2⟩)
  go_ret
  exact ⟨rfl, Below.join hb (Nat.le_refl _) hB2⟩
set_option maxHeartbeats 2000000 in
theorem markTold_any (hi0 B0 : Nat) (c n : Int) (tr : List Int) (gap : Int) (L : List TrV) (at_ : Option Addr) (ct : Nat) (aT : Option Addr) (cT : Nat) (w : World) (hl1 : tr.length ≤ 39) (hl2 : L.length ≤ 5000) (hl3 : ∀ x ∈ L, x.1.legs.length ≤ 5000) (hh : B0 ≤ hi0) (hb0 : hi0 ≤ w.heap.size) (hO : LOwnH hi0 B0 w tr L (.slice at_ tr.length ct) (.slice aT L.length cT)) :
    Calls Tryz.prog 21 #[.agg #[.int .i64 c, .int .i64 n, .slice at_ tr.length ct, .int .i64 gap, .slice aT L.length cT], .int .i64 1] w fun e w' => e = .returned (.int .i64 (1 + tr.length + qT (nlOf L) L.length)) ∧ MarkedL w' tr.length L at_ aT ∧ Mid B0 hi0 w w' := by
  have hb := b1 w (.cells #[.int .i64 c, .int .i64 n, .slice at_ tr.length ct, .int .i64 gap, .slice aT L.length cT] 46)
  have hc := markLineO_any hi0 B0 tr gap L at_ ct aT cT _ hl1 hl2 hl3 hh (by have := hb.size; omega) (hO.later hb)
  clear hO hl3
  generalize (qT (nlOf L) L.length : Int) = Q at hc ⊢
  go_enter Tryz.func21, Tryz.ntmps21
  go_wp2_with (go_at_call 14; refine hc.mono ?_; rintro _ w2 ⟨rfl, hI2, hM2⟩)
  go_ret
  exact ⟨rfl, hI2, (Mid.ofBelow hb (by omega)).trans hM2⟩
set_option maxHeartbeats 2000000 in
theorem heldTold_any (c n : Int) (tr : Nat) (gap : Int) (L : List TrV) (at_ : Option Addr) (ct : Nat) (aT : Option Addr) (cT : Nat) (w : World) (hl1 : tr ≤ 39) (hl2 : L.length ≤ 5000) (hl3 : ∀ x ∈ L, x.1.legs.length ≤ 5000) (hM : MarkedL w tr L at_ aT) :
    Calls Tryz.prog 22 #[.agg #[.int .i64 c, .int .i64 n, .slice at_ tr ct, .int .i64 gap, .slice aT L.length cT], .int .i64 1] w fun e w' => e = .returned (.int .i64 (1 + tr + qT (nlOf L) L.length)) ∧ Below w.heap.size w w' := by
  have hb := b1 w (.cells #[.int .i64 c, .int .i64 n, .slice at_ tr ct, .int .i64 gap, .slice aT L.length cT] 46)
  have hc := heldLineO_any tr gap L at_ ct aT cT _ hl1 hl2 hl3 (hM.later hb)
  have hq : (0 : Int) ≤ (qT (nlOf L) L.length : Int) := by omega
  clear hM hl3
  generalize (qT (nlOf L) L.length : Int) = Q at hc hq ⊢
  have hnn : ¬ ((1 : Int) + (tr : Int) + Q < 0) := by omega
  go_enter Tryz.func22, Tryz.ntmps22
  go_wp2_with (go_at_call 48; refine hc.mono ?_; rintro _ w2 ⟨rfl, hB2⟩)
  go_ret
  exact ⟨rfl, Below.join hb (Nat.le_refl _) hB2⟩
end Go.Proofs.YthnlkpifafklkaaGreatDoor

namespace Go.Proofs.YthnlkpifafklkaaGreatDoor
open Go.RowKit

theorem new5 (w : World) (a b c d e : Value) (t : TypeId) : (w.alloc (.cells #[a, b, c, d, e] t)).cell? ⟨w.heap.size, 0, none⟩ = some a ∧ (w.alloc (.cells #[a, b, c, d, e] t)).cell? ⟨w.heap.size, 1, none⟩ = some b ∧ (w.alloc (.cells #[a, b, c, d, e] t)).cell? ⟨w.heap.size, 2, none⟩ = some c ∧ (w.alloc (.cells #[a, b, c, d, e] t)).cell? ⟨w.heap.size, 3, none⟩ = some d ∧ (w.alloc (.cells #[a, b, c, d, e] t)).cell? ⟨w.heap.size, 4, none⟩ = some e := by simp
/-- a box of five cells -/
structure Box5 (W : World) (b : Nat) (x0 x1 x2 x3 x4 : Value) : Prop where
  c0 : W.cell? ⟨b, 0, none⟩ = some x0
  c1 : W.cell? ⟨b, 1, none⟩ = some x1
  c2 : W.cell? ⟨b, 2, none⟩ = some x2
  c3 : W.cell? ⟨b, 3, none⟩ = some x3
  c4 : W.cell? ⟨b, 4, none⟩ = some x4
theorem Box5.new (w : World) (a b c d e : Value) (t : TypeId) : Box5 (w.alloc (.cells #[a, b, c, d, e] t)) w.heap.size a b c d e := by
  obtain ⟨h0, h1, h2, h3, h4⟩ := new5 w a b c d e t
  exact ⟨h0, h1, h2, h3, h4⟩
theorem Box5.move {W W' : World} {b : Nat} {x0 x1 x2 x3 x4 : Value} (h : Box5 W b x0 x1 x2 x3 x4) (hm : ∀ o u, W.cell? ⟨b, o, none⟩ = some u → W'.cell? ⟨b, o, none⟩ = some u) : Box5 W' b x0 x1 x2 x3 x4 := ⟨hm 0 _ h.c0, hm 1 _ h.c1, hm 2 _ h.c2, hm 3 _ h.c3, hm 4 _ h.c4⟩
theorem Box5.later {W W' : World} {b : Nat} {x0 x1 x2 x3 x4 : Value} (h : Box5 W b x0 x1 x2 x3 x4) (hB : Below W.heap.size W W') : Box5 W' b x0 x1 x2 x3 x4 := h.move (fun _ _ hu => cellLater hB hu)
theorem IsL.grow {W W' : World} {l : LnL} {a b : Option Addr} (h : IsL 0 W.heap.size W l a b) (hB : Below W.heap.size W W') : IsL 0 W'.heap.size W' l a b := ⟨h.ints.grow hB, h.trs.grow hB⟩
theorem IsL.zero {m n : Nat} {W : World} {l : LnL} {a b : Option Addr} (h : IsL m n W l a b) (hn : n ≤ W.heap.size) : IsL 0 W.heap.size W l a b := ⟨h.ints.mono (Nat.zero_le _) hn, h.trs.mono (Nat.zero_le _) hn⟩
theorem IsL.mid {m n lo hi : Nat} {W W' : World} {l : LnL} {a b : Option Addr} (h : IsL m n W l a b) (hM : Mid lo hi W W') (hn : n ≤ lo) : IsL m n W' l a b := ⟨h.ints.same (hM.sameBelow hn), h.trs.same (hM.sameBelow hn)⟩
theorem IsL.below {m n B : Nat} {W W' : World} {l : LnL} {a b : Option Addr} (h : IsL m n W l a b) (hB : Below B W W') (hn : n ≤ B) : IsL m n W' l a b := ⟨h.ints.below hB hn, h.trs.below hB hn⟩

set_option maxRecDepth 20000 in
set_option maxHeartbeats 8000000 in
theorem lawRead_any (s : Bs) (w : World) (hL : LaidR w) (hg : w.cell? ⟨0, 0, none⟩ = some (.iface 184 (.agg #[.pointer (some ⟨10, 129, none⟩)]))) :
    Calls Tryz.prog 4 #[.string (ba s)] w fun e w' => e = .returned (.bool true) ∧ Below w.heap.size w w' := by
  have hsz : ((ba s).size : Int) = (s.length : Int) := by rw [ba_size]
  by_cases hlong : 1048576 < s.length
  · have hlong' : (1048576 : Int) < (s.length : Int) := by omega
    generalize ba s = S at hsz
    go_enter Tryz.func4, Tryz.ntmps4
    go_wp2
    go_ret
    exact ⟨rfl, Below.refl _ _⟩
  · have hlong' : ¬ ((1048576 : Int) < (s.length : Int)) := by omega
    obtain ⟨c, n, l, ht⟩ : ∃ c n l, toldOf s = (c, n, l) := ⟨_, _, _, rfl⟩
    have hSp : ∀ W, Calls Tryz.prog 18 #[.string (ba s)] W (ToldIs c n l W) := fun W => (specRead_any s W (by omega)).mono (fun e w' h => h.is ht)
    have hIm : ∀ W, Below w.heap.size w W → Calls Tryz.prog 19 #[.string (ba s)] W (ToldIs c n l W) := fun W hB => (implRead_any s W (hL.later hB) (cellLater hB hg) (by omega)).mono (fun e w' h => h.is ht)
    clear ht hL hg
    generalize ba s = S at hsz hSp hIm
    go_enter Tryz.func4, Tryz.ntmps4
    go_wp2_with (go_at_call 18; refine (hSp w).mono ?_; rintro _ w1 ⟨L0, a0, k0, e0, d0, hl0, rfl, hO0, hm1, hm2, hm3, hB1⟩)
    have hN1 := b1 w1 (.cells #[.int .i64 c, .int .i64 n, .slice a0 l.tracks.length k0, .int .i64 l.gap, .slice e0 L0.length d0] 46)
    have X0 := Box5.new w1 (.int .i64 c) (.int .i64 n) (.slice a0 l.tracks.length k0) (.int .i64 l.gap) (.slice e0 L0.length d0) 46
    have hs1 : (w1.alloc (.cells #[.int .i64 c, .int .i64 n, .slice a0 l.tracks.length k0, .int .i64 l.gap, .slice e0 L0.length d0] 46)).heap.size = w1.heap.size + 1 := by simp
    have hBv1 := Below.join hB1 (Nat.le_refl _) hN1
    refine (hIm _ hBv1).mono ?_
    rintro _ w2 ⟨L1, a1, k1, e1, d1, hl1, rfl, hO1, _, hm2', hm3', hB2⟩
    have hln0 : L0.length = l.trains.length := by rw [hl0, List.length_map]
    have hln1 : L1.length = l.trains.length := by rw [hl1, List.length_map]
    have hlg := legs_le hl0 hm3
    have hM0 := hO0.isL hl0 hm3
    have hM1 := hO1.isL hl1 hm3'
    rw [hs1] at hO1
    have hsz1 := hB1.size
    have hsz2 := hB2.size
    rw [hs1] at hsz2
    have hN2 := b1 w2 (.cells #[.int .i64 c, .int .i64 n, .slice a1 l.tracks.length k1, .int .i64 l.gap, .slice e1 L1.length d1] 46)
    have X1 := Box5.new w2 (.int .i64 c) (.int .i64 n) (.slice a1 l.tracks.length k1) (.int .i64 l.gap) (.slice e1 L1.length d1) 46
    have hs2 : (w2.alloc (.cells #[.int .i64 c, .int .i64 n, .slice a1 l.tracks.length k1, .int .i64 l.gap, .slice e1 L1.length d1] 46)).heap.size = w2.heap.size + 1 := by simp
    have hV2 := Below.join hB2 (Nat.le_refl _) hN2
    replace X0 := X0.later hV2
    have hM0' := (hM0.below (Below.join hN1 (Nat.le_refl _) hV2) (Nat.le_refl _))
    have hM1' := (hM1.below hN2 (Nat.le_refl _))
    have hEq : Calls Tryz.prog 20 #[.agg #[.int .i64 c, .int .i64 n, .slice a1 l.tracks.length k1, .int .i64 l.gap, .slice e1 L1.length d1], .agg #[.int .i64 c, .int .i64 n, .slice a0 l.tracks.length k0, .int .i64 l.gap, .slice e0 L0.length d0]] (w2.alloc (.cells #[.int .i64 c, .int .i64 n, .slice a1 l.tracks.length k1, .int .i64 l.gap, .slice e1 L1.length d1] 46)) fun e w' => e = .returned (.bool true) ∧ Below (w2.alloc (.cells #[.int .i64 c, .int .i64 n, .slice a1 l.tracks.length k1, .int .i64 l.gap, .slice e1 L1.length d1] 46)).heap.size (w2.alloc (.cells #[.int .i64 c, .int .i64 n, .slice a1 l.tracks.length k1, .int .i64 l.gap, .slice e1 L1.length d1] 46)) w' := by
      have h := eqTold_same c n l a1 e1 a0 e0 k1 d1 k0 d0 _ hm1 (by omega) hlg (hM1'.zero (by omega)) (hM0'.zero (by omega))
      simp only [← hln1] at h
      rw [show (Value.slice e0 L0.length d0) = .slice e0 L1.length d0 by rw [hln0, hln1]]
      exact h
    have hOH := hO1.high.later hN2
    have hBv2 := Below.join hBv1 (Nat.le_refl _) hV2
    have x00 := X0.c0
    have x01 := X0.c1
    have x02 := X0.c2
    have x03 := X0.c3
    have x04 := X0.c4
    have hlt12 : w1.heap.size < w2.heap.size := by omega
    have hlg' : Hid _ := hlg
    have hIm' : Hid _ := hIm
    clear hl0 hl1 hlg hIm hSp hM0 hM1 hO0 hO1
    have hln1' : Hid _ := hln1
    have hln0' : Hid _ := hln0
    clear hln0 hln1
    have hnn : ¬ ((1 : Int) + (l.tracks.length : Int) + (qT (nlOf L1) L1.length : Int) < 0) := by omega
    go_wp2_with (first | (go_at_call 20; refine hEq.mono ?_; rintro _ w3 ⟨rfl, hB3⟩; have Y1 := X1.later hB3; have hs3 := hB3.size; have y0 := Y1.c0; have y1 := Y1.c1; have y2 := Y1.c2; have y3 := Y1.c3; have y4 := Y1.c4) | (go_at_call 21; refine (markTold_any w2.heap.size (w1.heap.size + 1) c n l.tracks l.gap L1 a1 k1 e1 d1 w3 hm1 hm2' hm3' (by omega) (by omega) (hOH.later hB3)).mono ?_; rintro _ w4 ⟨rfl, hMk, hMd⟩; have Z1 := Y1.move (fun o u hu => hMd.cellAbove (Nat.le_refl _) hu); have v0 := Z1.c0; have v1 := Z1.c1; have v2 := Z1.c2; have v3 := Z1.c3; have v4 := Z1.c4) | (go_at_call 22; refine (heldTold_any c n l.tracks.length l.gap L1 a1 k1 e1 d1 w4 hm1 hm2' hm3' hMk).mono ?_; rintro _ w5 ⟨rfl, hB5⟩))
    have hB3w : Below w.heap.size w w3 := Below.join hBv2 (Nat.le_refl _) hB3
    have hB4w : Below w.heap.size w w4 := hB3w.trans (hMd.below.mono (by omega))
    have hB5w : Below w.heap.size w w5 := Below.join hB4w (Nat.le_refl _) hB5
    refine (hIm'.out _ hB5w).mono ?_
    rintro _ w6 ⟨L2, a2, k2, e2, d2, hl2, rfl, hO2, _, hm2'', hm3'', hB6⟩
    have hln2 : L2.length = l.trains.length := by rw [hl2, List.length_map]
    have hN6 := b1 w6 (.cells #[.int .i64 c, .int .i64 n, .slice a2 l.tracks.length k2, .int .i64 l.gap, .slice e2 L2.length d2] 46)
    have hs6 : (w6.alloc (.cells #[.int .i64 c, .int .i64 n, .slice a2 l.tracks.length k2, .int .i64 l.gap, .slice e2 L2.length d2] 46)).heap.size = w6.heap.size + 1 := by simp
    have hs4 := hMd.below.size
    have hs5 := hB5.size
    have hs6' := hB6.size
    have hV6 := Below.join (Below.join hB5 (Nat.le_refl _) hB6) (Nat.le_refl _) hN6
    have U0 := ((X0.later hB3).move (fun o u hu => hMd.cellBelow (Nat.lt_succ_self _) hu)).later hV6
    have U1 := Z1.later hV6
    have hMk6 := hMk.later hV6
    have hM06 := ((hM0'.below hB3 (by omega)).mid hMd (Nat.le_succ _)).below hV6 (by omega)
    have hM26 := (hO2.isL hl2 hm3'').below hN6 (Nat.le_refl _)
    have hEq2 : Calls Tryz.prog 20 #[.agg #[.int .i64 c, .int .i64 n, .slice a2 l.tracks.length k2, .int .i64 l.gap, .slice e2 L2.length d2], .agg #[.int .i64 c, .int .i64 n, .slice a0 l.tracks.length k0, .int .i64 l.gap, .slice e0 L0.length d0]] (w6.alloc (.cells #[.int .i64 c, .int .i64 n, .slice a2 l.tracks.length k2, .int .i64 l.gap, .slice e2 L2.length d2] 46)) fun e w' => e = .returned (.bool true) ∧ Below (w6.alloc (.cells #[.int .i64 c, .int .i64 n, .slice a2 l.tracks.length k2, .int .i64 l.gap, .slice e2 L2.length d2] 46)).heap.size (w6.alloc (.cells #[.int .i64 c, .int .i64 n, .slice a2 l.tracks.length k2, .int .i64 l.gap, .slice e2 L2.length d2] 46)) w' := by
      have h := eqTold_same c n l a2 e2 a0 e0 k2 d2 k0 d0 _ hm1 (by rw [← hln2]; omega) hlg'.out (hM26.zero (by omega)) (hM06.zero (by omega))
      simp only [← hln2] at h
      rw [show (Value.slice e0 L0.length d0) = .slice e0 L2.length d0 by rw [hln0'.out, hln2]]
      exact h
    have r0 := U0.c0
    have r1 := U0.c1
    have r2 := U0.c2
    have r3 := U0.c3
    have r4 := U0.c4
    have s0 := U1.c0
    have s1 := U1.c1
    have s2 := U1.c2
    have s3 := U1.c3
    have s4 := U1.c4
    have hlt6 : w1.heap.size < w6.heap.size := by omega
    have hlt7 : w2.heap.size < w6.heap.size := by omega
    clear hl2 hO2 hM26 hln2
    go_wp2_with (first | (go_at_call 20; refine hEq2.mono ?_; rintro _ w7 ⟨rfl, hB7⟩; have S1 := U1.later hB7; have t0 := S1.c0; have t1 := S1.c1; have t2 := S1.c2; have t3 := S1.c3; have t4 := S1.c4) | (go_at_call 22; refine (heldTold_any c n l.tracks.length l.gap L1 a1 k1 e1 d1 w7 hm1 hm2' hm3' (hMk6.later hB7)).mono ?_; rintro _ w8 ⟨rfl, hB8⟩))
    go_ret
    exact ⟨rfl, Below.join (Below.join (Below.join hB4w (Nat.le_refl _) hV6) (Nat.le_refl _) hB7) (Nat.le_refl _) hB8⟩
end Go.Proofs.YthnlkpifafklkaaGreatDoor

namespace Go.Proofs.YthnlkpifafklkaaGreatDoor
open Go.ChangeShapes Go.WideShapes Go.ChangeAt Go.RowKit

set_option maxRecDepth 100000 in
theorem lawRead_contract (H : Type) (enc : TypeId × Value → H) (W : World) (base : Nat) (args : Array Value) (ds gs : List (DataW H)) (before : List MemPlace)
    (hval : ∀ (j : Nat) t v, Tryz.f4.params[j]? = some t → args[j]? = some v → Value.okWide Tryz.prog W .any base t v)
    (hW : DataW.Whole enc Tryz.prog Tryz.f4.params.toList Rows.fnExactReadLineSpec.vars false W args.toList ds gs before) (hL : laidMetH Tryz.prog listR W) :
    Calls Tryz.prog 4 args W fun e W' => ∃ v, e = .returned v ∧ Rows.fnExactReadLineSpec.post enc Tryz.prog Tryz.f4 false true false false W args v W' := by
  have hW' := hW
  obtain ⟨p, q, hA0, hV, rfl, hfz, hnd⟩ := hW
  have hA : DataW.TrodAll enc Tryz.prog W 0 (fun _ => true) true Tryz.f4.params.toList args.toList ds p := hA0
  rw [Tryz.params4] at hA hval
  obtain ⟨v0, vs0, d0, ds0, p0, q0, hargs, rfl, rfl, h0, r0⟩ := trodAll_cons hA
  obtain ⟨rfl, rfl, rfl⟩ := trodAll_nil r0
  obtain rfl : args = #[v0] := Array.ext' hargs
  obtain ⟨gv, tv, csv, fv, dv, pv, rfl, hgv, htv, hvv, htr, rfl⟩ := trodVars_one hV
  have hparts := listR_parts hL
  have hg := handle_of hparts.2
  have hLR := laidR_of hL
  have hk := h0
  obtain ⟨st, rfl, _⟩ := Go.ChangeMaps.open_string Tryz.underlying9 (hval 0 9 v0 rfl rfl) h0
  have hWk := hW'
  simp only [List.append_nil] at hW'
  have hst : st = ba st.data.toList := (ba_of st).symm
  rw [hst]
  refine (lawRead_any st.data.toList W hLR hg).mono fun e W' ⟨he, hb⟩ => ?_
  subst he
  have hlt : ∀ x ∈ p0, x.block < W.heap.size := fun x hx => hW'.lt x (by simp [hx])
  have hltv : ∀ x ∈ pv, x.block < W.heap.size := fun x hx => hW'.lt x (by simp [hx])
  have e1 : ∀ d d' : DataW H, Rows.fnExactReadLineSpec.fn H ([d] ++ [d']) = { results := [.lit (.bool true)], args := [d], vars := [d'] } := fun _ _ => rfl
  have htv2 : (Tryz.prog.globals[1]?).map (·.type) = some 182 := by kernel_rfl
  have hgv2 : Tryz.prog.globalNamed "loop.example/stringline/impl.words" = some 1 := by kernel_rfl
  obtain rfl := Option.some.inj (hgv2.symm.trans hgv)
  obtain rfl := Option.some.inj (htv2.symm.trans htv)
  obtain ⟨fv', htr'⟩ := Below.trod Tryz.laidOut (show Tryz.prog.readableRec 182 = true by kernel_rfl) (of_decide_eq_true (by kernel_rfl)) (show DataW.Trod enc Tryz.prog W 0 (fun _ => true) true 182 (.agg csv) dv pv from ⟨fv, htr⟩) hb hltv
  have hvv' := Go.Joins.var_stays hgv2 hvv hb (Nat.le_refl _)
  refine ⟨_, rfl, _, _, _, [], p0 ++ [], MemPlace.row ⟨1, 0, none⟩ csv.size ++ pv, hWk, ?_, ?_, ?_, hb.frame _, fun h => by cases h⟩
  · rw [e1]; exact trodAll_cons_mk (shut_bool Tryz.underlying4 true) trodAll_mk0
  · rw [e1]; exact trodAll_cons_mk (Below.trod Tryz.laidOut (by kernel_rfl) (of_decide_eq_true (by kernel_rfl)) hk hb hlt) trodAll_mk0
  · rw [e1]; exact trodVars_mk1 hgv2 htv2 hvv' htr'

theorem laidWorldR_reads (os : Os) {H : Type} (enc : TypeId × Value → H) : ∃ places, DataW.whole enc Tryz.prog ((laidWorldR os).forCall (fun _ _ => 0) ⟨#[], #[.string ⟨#[]⟩], []⟩).memory Tryz.f4.params.toList Rows.fnExactReadLineSpec.vars false #[Value.string ⟨#[]⟩].toList 8 = some ([.lit (.string [])], [Rows.laid_loop_example_stringline_impl_words], places) :=
  ⟨[.cell 1 0, .cell 1 1, .cell 1 2, .cell 1 3, .cell lowB 0, .cell (lowB + 1) 0, .cell (lowB + 2) 0, .cell (lowB + 2) 1, .cell (lowB + 2) 2, .cell (lowB + 2) 3, .cell (lowB + 3) 0, .cell (lowB + 3) 1, .cell (lowB + 3) 2], by kernel_rfl⟩

set_option maxRecDepth 100000 in
theorem lawRead_lifted (os : Os) (started : os.Started) (H : Type) (enc : TypeId × Value → H) (F : Stop.Interp) :
    ReturnsInHanded {} Tryz.checked os 4 .any ((OpenSpec.ofChange Rows.fnExactReadLineSpec).preRow enc Tryz.prog Tryz.f4 Rows.fnExactReadLineRow.domain false Rows.fnExactReadLineRow.laid) (((OpenSpec.ofChange Rows.fnExactReadLineSpec).at F).post enc Tryz.prog Tryz.f4 false true false false) := by
  obtain ⟨places, hx⟩ := laidWorldR_reads os enc
  refine returnsInHanded_of_row (C := Tryz.checked) (s := OpenSpec.ofChange Rows.fnExactReadLineSpec) Tryz.own started (by kernel_rfl) Tryz.func4
    (witness_row_atRef (enc := enc) (C := Tryz.checked) false (laidWorldR os) #[.string ⟨#[]⟩] rfl (by kernel_rfl) (by kernel_rfl) (by kernel_rfl)
      (OpenSpec.preRow_of_cond 8 hx (by kernel_rfl) (fun k hk => by cases hk) (by kernel_rfl) (laidWorldR_met os _))) ?_
  intro W base args ds gs before hval hW _ _ _ hL _ _
  exact lawRead_contract H enc W base args ds gs before hval hW hL

theorem lawRead_said : Rows.FnExactReadLineSaid :=
  OpenClaim.holds_of_cond 4 Tryz.f4 rfl rfl rfl rfl rfl rfl rfl ⟨rfl, rfl, rfl, rfl, rfl⟩ rfl rfl rfl rfl rfl (by kernel_rfl) Tryz.func4 (by kernel_rfl)
    (of_decide_eq_true (by kernel_rfl)) (by unfold Func.isWrapper; rw [if_neg (of_decide_eq_false (by kernel_rfl))]; exact ⟨rfl, rfl⟩)
    (fun os started H enc _ F => by rw [OpenClaim.pre_eq_preRow]; exact lawRead_lifted os started H enc F)

theorem lawRead_plain (f : FuncId) (fn : Func) (hf : Tryz.pinned.checked.prog.funcNamed "loop.example/stringline/laws.FnExactReadLine" = some f) (hfn : Tryz.pinned.checked.prog.funcs[f]? = some fn) :
    true = Tryz.pinned.checked.prog.looks [] ∧ ∀ (j : Nat) t, fn.params[j]? = some t → Tryz.pinned.checked.prog.wantsStandIn t = false := by
  obtain rfl : f = 4 := Option.some.inj ((show Tryz.prog.funcNamed "loop.example/stringline/laws.FnExactReadLine" = some 4 by kernel_rfl).symm.trans hf) |>.symm
  obtain rfl : fn = Tryz.f4 := (Option.some.inj (Tryz.func4.symm.trans hfn)).symm
  refine ⟨by kernel_rfl, fun j t ht => ?_⟩
  rw [Tryz.params4] at ht
  obtain rfl : t = 9 := by simpa using Array.mem_of_getElem? ht
  exact (show Tryz.prog.wantsStandIn 9 = false by kernel_rfl)

theorem lawRead_card : Rows.FnExactReadLineCardSaid :=
  Claim7.holds_tied_plain_at .later [] _ _ _ _ lawRead_said (fun _ h => by cases h) (by kernel_rfl) (fun _ h => by cases h) fnExactReadLine_row_tie rfl ⟨rfl, rfl⟩ (by kernel_rfl) rfl lawRead_plain (by kernel_rfl)
end Go.Proofs.YthnlkpifafklkaaGreatDoor
