/-
  The program's ReadLine.
  A drawn line, as plain data: it is right.
  A number as the model writes it.
  The model's WriteLine: what it answers.
  The model's search: which of two plans is less.
  The model's search: what a plan that is not whole yet costs at least.
-/
import Derived.Test.YtnjaegeapcijpaaGreatDoorGD
import Derived.Test.YtnjaegeapcijpaaGreatDoorImplK
import Derived.Test.YtnjaegeapcijpaaGreatDoorGB
import Derived.Test.YtnjaegeapcijpaaGreatDoorGA
import Derived.Laws.BytesArg
import Derived.Test.YtnjaegeapcijpaaGreatDoorSpecK
import Derived.Deep.RegionHeld3
import Derived.Test.YtnjaegeapcijpaaGreatDoorPlainC
import Derived.Test.YtnjaegeapcijpaaGreatDoorSpecU
namespace Go.Proofs.YtnjaegeapcijpaaGreatDoor
open Go.RowKit

def faultL (l : LnL) : Int × Int := faultOf l.tracks.length (gI l.tracks) l.gap l.trains.length (fT l.trains)
/-- what is told of a text: the code, the row, the line -/
def toldOf (s : Bs) : Int × Int × LnL :=
  if 4000 < s.length then (2, 0, nilL) else match goM nilL 0 (cutN s).1 (cutN s).2 with
    | .inr n => (1, n, nilL)
    | .inl l => if (faultL l).1 = 0 then (0, 0, l) else (2 + (faultL l).1, 0, nilL)
def ToldPost (s : Bs) (w : World) (e : Ending) (w' : World) : Prop := ∃ tr gap L at_ ct aT cT, (toldOf s).2.2 = ⟨tr, gap, L.map Prod.fst⟩ ∧ e = .returned (.agg #[.int .i64 (toldOf s).1, .int .i64 (toldOf s).2.1, .slice at_ tr.length ct, .int .i64 gap, .slice aT L.length cT]) ∧
  LOwn w.heap.size w' tr L (.slice at_ tr.length ct) (.slice aT L.length cT) ∧ tr.length ≤ 39 ∧ L.length ≤ 5000 ∧ (∀ x ∈ L, x.1.legs.length ≤ 5000) ∧ Below w.heap.size w w'
theorem toldPost_nil {s : Bs} {w w' : World} {c n : Int} (h : toldOf s = (c, n, nilL)) (hB : Below w.heap.size w w') : ToldPost s w (.returned (.agg #[.int .i64 c, .int .i64 n, .slice none 0 0, .int .i64 0, .slice none 0 0])) w' := by
  refine ⟨[], 0, [], none, 0, none, 0, by rw [h]; rfl, by rw [h]; rfl, ⟨World.ownsRow_nil _ _ _ _, OwnT.nil _ _, fun k e => by simp [Value.ownBlock] at e, fun x hx => absurd hx List.not_mem_nil⟩, by simp, by simp, fun x hx => absurd hx List.not_mem_nil, hB⟩
theorem faultL_code {l : LnL} : (faultL l).1 = 0 ∨ (faultL l).1 = 1 ∨ (faultL l).1 = 2 ∨ (faultL l).1 = 3 := by
  unfold faultL faultOf
  split
  · split
    · exact Or.inr (Or.inr (Or.inl rfl))
    · split
      · exact Or.inr (Or.inr (Or.inr rfl))
      · exact Or.inl rfl
  · exact Or.inr (Or.inl rfl)

set_option maxRecDepth 20000 in
set_option maxHeartbeats 4000000 in
theorem implRead_no (s : Bs) (w : World) (hno : ∀ l, 4000 < s.length ∨ goM nilL 0 (cutN s).1 (cutN s).2 ≠ .inl l) (hL : LaidR w) (hs : s.length ≤ 1048576) :
    Calls Tryz.prog 13 #[.string (ba s)] w (ToldPost s w) := by
  have hsz : ((ba s).size : Int) = (s.length : Int) := by rw [ba_size]
  by_cases hlong : 4000 < s.length
  · have hT : toldOf s = (2, 0, nilL) := by unfold toldOf; rw [if_pos hlong]
    have hlong' : (4000 : Int) < (s.length : Int) := by omega
    generalize ba s = S at hsz
    have hP : ∀ w', Below w.heap.size w w' → ToldPost s w (.returned (.agg #[.int .i64 2, .int .i64 0, .slice none 0 0, .int .i64 0, .slice none 0 0])) w' := fun w' hB => toldPost_nil hT hB
    clear hT
    go_enter Tryz.func13, Tryz.ntmps13
    go_wp2
    exact bodyPost_ret (v := .agg #[.int .i64 2, .int .i64 0, .slice none 0 0, .int .i64 0, .slice none 0 0]) (by simp [results, Tryz.results13, go_sem]) rfl (hP _ (b1 _ _))
  · have hlong' : ¬ ((4000 : Int) < (s.length : Int)) := by omega
    have hA := b1 w (.cells #[.int .i64 0, .int .i64 0, .slice none 0 0, .int .i64 0, .slice none 0 0] 43)
    have hroom : Room w.heap.size 5 (w.alloc (.cells #[.int .i64 0, .int .i64 0, .slice none 0 0, .int .i64 0, .slice none 0 0] 43)) := Room.lit _ _ _ 5 (by simp)
    have hsA : (w.alloc (.cells #[.int .i64 0, .int .i64 0, .slice none 0 0, .int .i64 0, .slice none 0 0] 43)).heap.size = w.heap.size + 1 := by simp
    have hrd := read_any s _ (hL.later hA) (by omega)
    unfold ReadPost at hrd
    cases hgm : goM nilL 0 (cutN s).1 (cutN s).2 with
    | inr k =>
      rw [hgm] at hrd
      have hT : toldOf s = (1, (k : Int), nilL) := by unfold toldOf; rw [if_neg hlong, hgm]
      have hrd2 := hrd.mono (R' := fun e w' => (∃ n' : Nat, k = n' + 1 ∧ e = .returned (.tuple #[.agg #[.slice none 0 0, .int .i64 0, .slice none 0 0], .int .i64 ((n' : Int) + 1)])) ∧ Below w.heap.size w w' ∧ w.heap.size < w'.heap.size ∧ Room w.heap.size 5 w') (by
        rintro e w' (⟨n', h1, h2, h3⟩ | ⟨tr, gap, L, at_, ct, aT, cT, h1, _⟩)
        · exact ⟨⟨n', Sum.inr.inj h1, h2⟩, Below.join hA (Nat.le_refl _) h3, by have := h3.size; omega, hroom.below h3 (by omega)⟩
        · cases h1)
      have hP : ∀ (n' : Nat) w', k = n' + 1 → Below w.heap.size w w' → ToldPost s w (.returned (.agg #[.int .i64 1, .int .i64 ((n' : Int) + 1), .slice none 0 0, .int .i64 0, .slice none 0 0])) w' := fun n' w' hk hB => toldPost_nil (by rw [hT, hk]; rfl) hB
      clear hT hrd
      generalize ba s = S at hsz hrd2
      go_enter Tryz.func13, Tryz.ntmps13
      go_wp2_with (go_at_call 45; refine hrd2.mono ?_; rintro _ w2 ⟨⟨n', rfl, rfl⟩, hB2, hlt2, hrm⟩; obtain ⟨x0, e0, f0⟩ := hrm 0 (by omega); obtain ⟨x1, e1, f1⟩ := hrm 1 (by omega); obtain ⟨x2, e2, f2⟩ := hrm 2 (by omega); obtain ⟨x3, e3, f3⟩ := hrm 3 (by omega); obtain ⟨x4, e4, f4⟩ := hrm 4 (by omega); have hpos : (0 : Int) < (n' : Int) + 1 := by omega)
      refine bodyPost_ret (v := .agg #[.int .i64 1, .int .i64 ((n' : Int) + 1), .slice none 0 0, .int .i64 0, .slice none 0 0]) (by simp [results, Tryz.results13, go_sem, e0, e1, e2, e3, e4, hlt2]) rfl (hP n' _ rfl ?_)
      exact (((((hB2.setCell (p := ⟨w.heap.size, _, none⟩) (Nat.le_refl _) _).setCell (p := ⟨w.heap.size, _, none⟩) (Nat.le_refl _) _).setCell (p := ⟨w.heap.size, _, none⟩) (Nat.le_refl _) _).setCell (p := ⟨w.heap.size, _, none⟩) (Nat.le_refl _) _).setCell (p := ⟨w.heap.size, _, none⟩) (Nat.le_refl _) _).alloc (by simp; omega) _
    | inl l => exact absurd hgm ((hno l).resolve_left hlong)
end Go.Proofs.YtnjaegeapcijpaaGreatDoor

namespace Go.Proofs.YtnjaegeapcijpaaGreatDoor
open Go.RowKit

theorem le_sum {L : List Nat} {x : Nat} (h : x ∈ L) : x ≤ L.sum := by
  induction L with
  | nil => cases h
  | cons y L ih =>
    rw [List.sum_cons]
    rcases List.mem_cons.1 h with rfl | h
    · omega
    · have := ih h; omega
/-- legs, each to the next station, within the line -/
inductive Walk (n : Int) (frm : Int) : List LegD → Int → Prop
  | nil : Walk n frm [] frm
  | snoc {L : List LegD} {at_ : Int} {g : LegD} (h : Walk n frm L at_) (h1 : g.to = at_ + 1 ∨ g.to = at_ - 1) (h2 : 0 ≤ g.to) (h3 : g.to < n) (h4 : 1 ≤ g.run) (h5 : g.run ≤ 30) (h6 : 0 ≤ g.stay) (h7 : g.stay ≤ 5) : Walk n frm (L ++ [g]) g.to
/-- a drawn train -/
structure DrawnT (n : Nat) (t : TrL) : Prop where
  frm : 0 ≤ t.frm ∧ t.frm < n
  ready : 0 ≤ t.ready ∧ t.ready ≤ 40
  due : 0 ≤ t.due ∧ t.due ≤ 1000
  weight : 1 ≤ t.weight ∧ t.weight ≤ 4
  some_ : 0 < t.legs.length
  walk : ∃ at_, Walk n t.frm t.legs at_
structure DrawnL (l : LnL) : Prop where
  tr : 2 ≤ l.tracks.length ∧ l.tracks.length ≤ 5
  nums : ∀ z ∈ l.tracks, 1 ≤ z ∧ z ≤ 3
  gap : 0 ≤ l.gap ∧ l.gap ≤ 4
  trs : l.trains.length ≤ 5
  legs : (l.trains.map fun t => t.legs.length).sum ≤ 10
  each : ∀ t ∈ l.trains, DrawnT l.tracks.length t

def prevTo (frm : Int) (L : List LegD) (j : Nat) : Int := match j with
  | 0 => frm
  | j + 1 => (L.getD j ⟨0, 0, 0⟩).to
theorem Walk.legs {n frm : Int} {L : List LegD} {at_ : Int} (h : Walk n frm L at_) : at_ = prevTo frm L L.length ∧ ∀ j, j < L.length → 0 ≤ (L.getD j ⟨0, 0, 0⟩).to ∧ (L.getD j ⟨0, 0, 0⟩).to < n ∧ ((L.getD j ⟨0, 0, 0⟩).to = prevTo frm L j + 1 ∨ (L.getD j ⟨0, 0, 0⟩).to = prevTo frm L j - 1) ∧ 1 ≤ (L.getD j ⟨0, 0, 0⟩).run ∧ (L.getD j ⟨0, 0, 0⟩).run ≤ 30 ∧ 0 ≤ (L.getD j ⟨0, 0, 0⟩).stay ∧ (L.getD j ⟨0, 0, 0⟩).stay ≤ 5 := by
  induction h with
  | nil => exact ⟨rfl, fun j hj => by simp at hj⟩
  | @snoc L at_ g h h1 h2 h3 h4 h5 h6 h7 ih =>
    have hlast : (L ++ [g]).getD L.length ⟨0, 0, 0⟩ = g := by simp [List.getD_eq_getElem?_getD]
    have hold : ∀ j, j < L.length → (L ++ [g]).getD j ⟨0, 0, 0⟩ = L.getD j ⟨0, 0, 0⟩ := fun j hj => by simp [List.getD_eq_getElem?_getD, List.getElem?_append_left hj]
    have hprev : ∀ j, j ≤ L.length → prevTo frm (L ++ [g]) j = prevTo frm L j := fun j hj => by
      cases j with
      | zero => rfl
      | succ j => simp only [prevTo]; rw [hold j (by omega)]
    refine ⟨?_, fun j hj => ?_⟩
    · rw [List.length_append]; show g.to = ((L ++ [g]).getD L.length ⟨0, 0, 0⟩).to; rw [hlast]
    · rw [List.length_append] at hj
      simp only [List.length_cons, List.length_nil] at hj
      by_cases e : j = L.length
      · subst e
        rw [hlast, hprev _ (Nat.le_refl _), ← ih.1]
        exact ⟨h2, h3, h1, h4, h5, h6, h7⟩
      · rw [hold j (by omega), hprev j (by omega)]
        exact ih.2 j (by omega)
theorem cur_prev (t : TrL) (j : Nat) : cur (trD t) j = prevTo t.frm t.legs j := by
  cases j with
  | zero => rfl
  | succ j => rfl
theorem DrawnT.right {n : Nat} {t : TrL} (h : DrawnT n t) : trainB n (trD t) = true := by
  obtain ⟨at_, hw⟩ := h.walk
  have hl := hw.legs.2
  have h1 := h.frm
  have h2 := h.ready
  have h3 := h.due
  have h4 := h.weight
  have h5 := h.some_
  have hlegs : legsB n (trD t) = true := by
    unfold legsB
    rw [decide_eq_true_eq]
    intro j hj
    obtain ⟨a1, a2, a3, a4, a5, a6, a7⟩ := hl j hj
    rw [cur_prev, show (trD t).leg j = t.legs.getD j ⟨0, 0, 0⟩ from rfl]
    unfold legB nextTo inB
    show (decide _ && decide _ && decide _ && decide _) = true
    simp only [Bool.and_eq_true, decide_eq_true_eq]
    exact ⟨⟨⟨⟨a1, by omega⟩, a3⟩, a4, by omega⟩, a6, by omega⟩
  unfold trainB inB
  rw [hlegs]
  show (decide (0 ≤ t.frm ∧ t.frm ≤ (n : Int) - 1) && decide (0 ≤ t.ready ∧ t.ready ≤ 100000) && decide (0 ≤ t.due ∧ t.due ≤ 100000) && decide (1 ≤ t.weight ∧ t.weight ≤ 100) && decide (0 < t.legs.length) && true) = true
  simp only [Bool.and_eq_true, decide_eq_true_eq, and_true]
  omega
theorem legSum_take (ts : List TrL) : ∀ k, k ≤ ts.length → legSum (fT ts) k = ((ts.take k).map fun t => t.legs.length).sum
  | 0, _ => rfl
  | k + 1, hk => by
    rw [legSum, legSum_take ts k (by omega), List.take_succ_eq_append_getElem (by omega), List.map_append, List.sum_append]
    congr 1
    unfold fT
    rw [List.getD_eq_getElem?_getD, List.getElem?_eq_getElem (by omega)]
    simp [trD]
theorem DrawnL.right {l : LnL} (h : DrawnL l) : faultOf l.tracks.length (gI l.tracks) l.gap l.trains.length (fT l.trains) = (0, 0) := by
  have h1 := h.tr
  have h2 := h.gap
  have h3 := h.trs
  refine faultOf_zero ⟨?_, ?_, h3, ?_⟩ (fun j hj => ?_) (fun j hj => ?_)
  · unfold inB; rw [decide_eq_true_eq]; omega
  · unfold inB; rw [decide_eq_true_eq]; omega
  · rw [legSum_take _ _ (Nat.le_refl _), List.take_length]; exact h.legs
  · have := h.nums (gI l.tracks j) (by unfold gI; rw [List.getD_eq_getElem?_getD, List.getElem?_eq_getElem hj]; exact List.getElem_mem hj)
    unfold inB; rw [decide_eq_true_eq]; omega
  · have hf : fT l.trains j = trD l.trains[j] := by unfold fT; rw [List.getD_eq_getElem?_getD, List.getElem?_eq_getElem hj]; rfl
    rw [hf]
    exact (h.each _ (List.getElem_mem hj)).right
end Go.Proofs.YtnjaegeapcijpaaGreatDoor

namespace Go.Proofs.YtnjaegeapcijpaaGreatDoor
open Go.RowKit

theorem itoa_digits {n : Int} (h : 0 ≤ n) : Lib.itoa n = Lib.decDigits n.toNat := by unfold Lib.itoa; rw [if_neg (by omega)]
theorem digit_step {v : Nat} {l d : List UInt8} (hv : 0 < v) (h : Lib.decDigits v ++ l = d) : (v / 10 = 0 → UInt8.ofNat (48 + v % 10) :: l = d) ∧ (0 < v / 10 → Lib.decDigits (v / 10) ++ (UInt8.ofNat (48 + v % 10) :: l) = d) := by
  constructor
  · intro h0
    have h1 : v < 10 := by omega
    rw [Lib.decDigits_one h1] at h
    rw [← h, Nat.mod_eq_of_lt h1]
    rfl
  · intro h0
    have h1 : ¬ v < 10 := by omega
    rw [Lib.decDigits, dif_neg h1] at h
    rw [← h]
    simp

theorem nameV {P : Program} {c : Code} {Q : Exit → Act → World → Prop} {a : Act} {W : World} (h : ∀ W', W' = W → c.wp P Q a W') : c.wp P Q a W := h W rfl
theorem cat (s t : ByteArray) (l m : List UInt8) (hs : s = ba l) (ht : t = ba m) (h : l.length + m.length ≤ 1000000) : ∃ r, (∀ w, (Op.stringOp .add s t).run Tryz.prog w = .ok (.string r) w) ∧ Hid (r = ba (l ++ m)) :=
  ⟨_, fun w => (by rw [hs, ht]; exact add_ba l m h w), rfl⟩
theorem wrapq {q : Nat} (h : q ≤ 99999999) : wrap64 (q : Int) = (q : Int) := by
  unfold wrap64
  omega

set_option maxHeartbeats 4000000 in
theorem l4decimal_any (n : Int) (w : World) (h0 : 0 ≤ n) (h1 : n ≤ 99999999) : Calls Tryz.prog 50 #[.int .i64 n] w fun e w' => e = .returned (.string (ba (Lib.itoa n))) ∧ Below w.heap.size w w' := by
  by_cases hz : n = 0
  · subst hz
    have hv : ba (Lib.itoa 0) = ⟨#[48]⟩ := by rw [itoa_digits (by decide), Lib.decDigits_one (by decide)]; rfl
    rw [hv]
    go_enter Tryz.func50, Tryz.ntmps50
    go_wp2
    go_ret
    exact ⟨rfl, Below.refl _ _⟩
  · have hne : (n == 0) = false := by simpa using hz
    have hlen := itoa_len h0 h1
    have hd : Lib.decDigits n.toNat ++ [] = Lib.itoa n := by rw [itoa_digits h0, List.append_nil]
    generalize Lib.itoa n = D at hd hlen
    obtain ⟨N, rfl⟩ : ∃ N : Nat, n = (N : Int) := ⟨n.toNat, by omega⟩
    rw [Int.toNat_natCast] at hd
    have hN : 0 < N := by omega
    clear hz h0
    go_enter Tryz.func50, Tryz.ntmps50
    go_wp2
    go_loopw [0, 3] (fun nn oo wr => ∃ (v : Nat) (l : List UInt8), nn = .int .i64 v ∧ oo = .string (ba l) ∧ v ≤ 99999999 ∧ (v = 0 → l = D) ∧ (0 < v → Lib.decDigits v ++ l = D) ∧ Below w.heap.size w wr) (fun nn _ _ => (intOf nn).toNat)
    case atStart => exact ⟨N, [], rfl, rfl, by omega, fun h => by omega, fun _ => hd, Below.refl _ _⟩
    case round =>
      obtain ⟨v, l, rfl, rfl, hv, hz, hp, hB⟩ := hrel
      by_cases hv0 : 0 < v
      · have hlt : (0 : Int) < (v : Int) := by omega
        have hst := digit_step hv0 (hp hv0)
        have hll : l.length ≤ 8 := by have := congrArg List.length (hp hv0); simp at this; omega
        have hst' : Hid _ := hst
        have hr : Int.tmod (v : Int) 10 = ((v % 10 : Nat) : Int) := by rw [Int.tmod_eq_emod_of_nonneg (by omega)]; omega
        have hq : Int.tdiv (v : Int) 10 = ((v / 10 : Nat) : Int) := by rw [Int.tdiv_eq_ediv_of_nonneg (by omega)]; omega
        have hm : v % 10 < 10 := Nat.mod_lt _ (by decide)
        clear hz hp hst
        generalize v % 10 = r at hr hst' hm
        generalize v / 10 = q at hq hst'
        have hw8 : IntKind.u8.wrap (48 + (r : Int)) = 48 + (r : Int) := by rw [IntKind.wrap_u8]; omega
        have hw64 : IntKind.i64.wrap (48 + (r : Int)) = 48 + (r : Int) := by rw [IntKind.wrap_i64]; omega
        have hc1 : ∀ i, i < 1 → (wr.alloc (.cells #[.int .u8 (48 + (r : Int))] 5)).cell? ⟨wr.heap.size, 0 + i, none⟩ = some (.int .u8 ([48 + (r : Int)].getD i 0)) := fun i hi => by
          obtain rfl : i = 0 := by omega
          simp
        have hconv := run_convert_bytes_arg (P := Tryz.prog) (wr.alloc (.cells #[.int .u8 (48 + (r : Int))] 5)) 22 5 Tryz.underlying22 Tryz.underlying5 wr.heap.size 0 1 1 [48 + (r : Int)] rfl hc1 9 Tryz.underlying9
        have hs : strOfNums [48 + (r : Int)] = ba [UInt8.ofNat (48 + r)] := by
          unfold strOfNums ba
          have : (48 + (r : Int)).toNat = 48 + r := by omega
          simp [this]
        rw [hs] at hconv
        have hadd := add_ba [UInt8.ofNat (48 + r)] l (by simp; omega)
        clear hc1 hs
        generalize UInt8.ofNat (48 + r) = d at hconv hadd hst'
        have hqv : q < v := by
          have h2 : (v : Int).tdiv 10 = (v : Int) / 10 := Int.tdiv_eq_ediv_of_nonneg (by omega)
          omega
        have hqv' : Hid _ := hqv
        clear hqv
        generalize hs1 : ba [d] = s1 at hconv hadd
        generalize hs2 : ba l = s2 at hadd ⊢
        generalize hs3 : ba ([d] ++ l) = s3 at hadd
        have hs3' : Hid _ := hs3
        clear hs1 hs2 hs3
        go_wp2
        have hqv := hqv'.out
        have hs3 := hs3'.out
        subst hs3
        have hwq : wrap64 (q : Int) = (q : Int) := wrapq (Nat.le_trans (Nat.le_of_lt hqv) hv)
        rw [hwq]
        refine ⟨⟨q, d :: l, rfl, rfl, Nat.le_trans (Nat.le_of_lt hqv) hv, hst'.out.1, hst'.out.2, hB.alloc hB.size _⟩, ?_⟩
        show ((q : Int)).toNat < ((v : Int)).toNat
        rw [Int.toNat_natCast, Int.toNat_natCast]
        exact hqv
      · obtain rfl : v = 0 := by omega
        have hl := hz rfl
        subst hl
        go_wp2
        go_ret
        exact ⟨rfl, hB⟩
end Go.Proofs.YtnjaegeapcijpaaGreatDoor

namespace Go.Proofs.YtnjaegeapcijpaaGreatDoor
open Go.RowKit

/-- what the text of a line is -/
def writeOf (len : Nat) (g : Nat → Int) (gap : Int) (np : Nat) (f : Nat → TrainD) : List UInt8 := if (faultOf len g gap np f).1 = 0 then lineT len g gap np f else []

set_option maxRecDepth 20000 in
set_option maxHeartbeats 8000000 in
theorem specWrite_any (a : Option Addr) (len cap : Nat) (g : Nat → Int) (gap : Int) (a' : Option Addr) (np cap' : Nat) (f : Nat → TrainD) (w : World) (hl : len ≤ 1048576) (hl' : np ≤ 1048576) (hml : ∀ j, j < np → (f j).nl ≤ 1048576)
    (hI : IsInts 0 w.heap.size w a len g) (hT : IsTrains 0 w.heap.size w a' np f) :
    Calls Tryz.prog 15 #[.agg #[.slice a len cap, .int .i64 gap, .slice a' np cap']] w fun e w' => e = .returned (.string (ba (writeOf len g gap np f))) ∧ Below w.heap.size w w' := by
  have hN := b1 w (.cells #[.slice a len cap, .int .i64 gap, .slice a' np cap'] 26)
  obtain ⟨y0, y1, y2⟩ := new3 w (.slice a len cap) (.int .i64 gap) (.slice a' np cap') 26
  by_cases hF : (faultOf len g gap np f).1 = 0
  · have hF0 := faultOf_snd hF
    have hS := smallL_of hF0
    have hR := rightL_of hF0
    have hA : writeOf len g gap np f = lineT len g gap np f := by unfold writeOf; rw [if_pos hF]
    rw [hA]
    have hok := l1ok_yes a len cap g gap a' np cap' f _ hl hl' hml (hI.grow hN) (hT.grow hN) hF0
    clear hA hF hF0
    have h12 := hS.l12
    have h5 := hS.n5
    go_enter Tryz.func15, Tryz.ntmps15
    go_wp2_with (go_at_call 29; refine hok.mono ?_; rintro _ W ⟨rfl, hB2⟩; have hB := Below.join hN (Nat.le_refl _) hB2; have x0 := cellLater hB2 y0; have x1 := cellLater hB2 y1; have x2 := cellLater hB2 y2)
    clear hok hB2 hN y0 y1 y2
    go_loopw [3, 16] (fun oo kk wr => ∃ (k : Nat), k ≤ len ∧ kk = .int .i64 k ∧ oo = .string (ba (tracksT g k)) ∧ Below W.heap.size W wr) (fun _ kk _ => len - (intOf kk).toNat)
    case atStart => exact ⟨0, Nat.zero_le _, rfl, rfl, Below.refl _ _⟩
    case round =>
      obtain ⟨k, hk, rfl, rfl, hBw⟩ := hrel
      obtain ⟨so, hso⟩ : ∃ so, so = ba (tracksT g k) := ⟨_, rfl⟩
      rw [← hso]
      have hso' : Hid _ := hso
      clear hso
      have hlk := tracksT_len hS.tk k hk
      by_cases hlt : k < len
      · have hk' : (k : Int) < (len : Int) := by omega
        have hk0 : (0 : Int) ≤ (k : Int) := by omega
        obtain ⟨h0, h1⟩ := hS.tk k hlt
        have hli := itoa_len h0 h1
        have hdec := l4decimal_any (g k) wr h0 h1
        obtain ⟨sd, hsd⟩ : ∃ sd, sd = ba (Lib.itoa (g k)) := ⟨_, rfl⟩
        rw [← hsd] at hdec
        obtain ⟨r1, e1, f1⟩ := cat ⟨#[32]⟩ sd [32] _ rfl hsd (by simp; omega)
        obtain ⟨r2, e2, f2⟩ := cat so r1 _ _ hso'.out f1.out (by simp; omega)
        clear hsd
        obtain ⟨b, off, rfl, _, hb, q0⟩ := hI k hlt
        replace q0 := cellLater (Below.join hB (Nat.le_refl _) hBw) q0
        go_wp2_with (go_at_call 50; refine hdec.mono ?_; rintro _ w5 ⟨rfl, hB5⟩)
        go_roundw
        case rel => exact ⟨k + 1, by omega, by go_num, by rw [f2.out]; rfl, Below.join hBw (Nat.le_refl _) hB5⟩
        case measure => simp [intOf]; omega
      · obtain rfl : k = len := by omega
        obtain ⟨h0, h1⟩ := hS.gp
        have hli := itoa_len h0 h1
        have hdec := l4decimal_any gap wr h0 h1
        obtain ⟨sd, hsd⟩ : ∃ sd, sd = ba (Lib.itoa gap) := ⟨_, rfl⟩
        rw [← hsd] at hdec
        obtain ⟨r1, e1, f1⟩ := cat ⟨#[10, 103, 97, 112, 32]⟩ sd [10, 103, 97, 112, 32] _ rfl hsd (by simp; omega)
        obtain ⟨r2, e2, f2⟩ := cat r1 ⟨#[10]⟩ _ [10] f1.out rfl (by simp; omega)
        obtain ⟨r3, e3, f3⟩ := cat so r2 _ _ hso'.out f2.out (by simp; omega)
        clear hsd
        have z1 := cellLater hBw x1
        have z2 := cellLater hBw x2
        go_wp2_with (go_at_call 50; refine hdec.mono ?_; rintro _ w5 ⟨rfl, hB5⟩; replace z2 := cellLater hB5 z2; have hBv := Below.join (Below.join hB (Nat.le_refl _) hBw) (Nat.le_refl _) hB5)
        have hhd : Hid (r3 = ba (headT k g gap)) := f3
        have hhl := headT_len hS
        clear f1 f2 f3 e1 e2 e3 hdec hB5 z1 hBw x0 x1 x2 hB hlt hlk
        go_loopw [3, 36] (fun oo jj wr => ∃ (j : Nat), j ≤ np ∧ jj = .int .i64 j ∧ oo = .string (ba (trainsT f (headT k g gap) j)) ∧ Below w5.heap.size w5 wr) (fun _ jj _ => np - (intOf jj).toNat)
        case atStart => exact ⟨0, Nat.zero_le _, rfl, by rw [hhd.out]; rfl, Below.refl _ _⟩
        case round =>
          clear hhd
          obtain ⟨j, hj, rfl, rfl, hBj⟩ := hrel
          obtain ⟨sj, hsj⟩ : ∃ sj, sj = ba (trainsT f (headT k g gap) j) := ⟨_, rfl⟩
          rw [← hsj]
          have hsj' : Hid _ := hsj
          clear hsj
          have hlj := trainsT_len (b := headT k g gap) hS j hj
          by_cases hlt : j < np
          · have hj' : (j : Int) < (np : Int) := by omega
            have hj0 : (0 : Int) ≤ (j : Int) := by omega
            obtain ⟨⟨hn0, hn1, hn2, hn3⟩, hnl⟩ := hS.tr j hlt
            have hBk := Below.join hBv (Nat.le_refl _) hBj
            obtain ⟨b, off, la, lc, rfl, _, hb', t0, t1, t2, t3, t4, hlg, _⟩ := hT j hlt
            replace t0 := cellLater hBk t0
            replace t1 := cellLater hBk t1
            replace t2 := cellLater hBk t2
            replace t3 := cellLater hBk t3
            replace t4 := cellLater hBk t4
            have hA1 := b1 wr (.cells #[.int .i64 (f j).frm, .int .i64 (f j).ready, .int .i64 (f j).due, .int .i64 (f j).weight, .slice la (f j).nl lc] 71)
            have hTb := Go.heap_alloc_new wr (.cells #[.int .i64 (f j).frm, .int .i64 (f j).ready, .int .i64 (f j).due, .int .i64 (f j).weight, .slice la (f j).nl lc] 71)
            obtain ⟨n00, n01⟩ := hn0
            obtain ⟨n10, n11⟩ := hn1
            obtain ⟨n20, n21⟩ := hn2
            obtain ⟨n30, n31⟩ := hn3
            have hi0 := itoa_len n00 n01
            have hi1 := itoa_len n10 n11
            have hi2 := itoa_len n20 n21
            have hi3 := itoa_len n30 n31
            obtain ⟨r1, e1, f1⟩ := cat ⟨#[116, 114, 97, 105, 110, 32]⟩ (ba (Lib.itoa (f j).frm)) [116, 114, 97, 105, 110, 32] _ rfl rfl (by simp; omega)
            obtain ⟨r2, e2, f2⟩ := cat r1 ⟨#[32, 114, 101, 97, 100, 121, 32]⟩ _ [32, 114, 101, 97, 100, 121, 32] f1.out rfl (by simp; omega)
            obtain ⟨r3, e3, f3⟩ := cat r2 (ba (Lib.itoa (f j).ready)) _ _ f2.out rfl (by simp; omega)
            obtain ⟨r4, e4, f4⟩ := cat r3 ⟨#[32, 100, 117, 101, 32]⟩ _ [32, 100, 117, 101, 32] f3.out rfl (by simp; omega)
            obtain ⟨r5, e5, f5⟩ := cat r4 (ba (Lib.itoa (f j).due)) _ _ f4.out rfl (by simp; omega)
            obtain ⟨r6, e6, f6⟩ := cat r5 ⟨#[32, 119, 101, 105, 103, 104, 116, 32]⟩ _ [32, 119, 101, 105, 103, 104, 116, 32] f5.out rfl (by simp; omega)
            obtain ⟨r7, e7, f7⟩ := cat r6 (ba (Lib.itoa (f j).weight)) _ _ f6.out rfl (by simp; omega)
            obtain ⟨r8, e8, f8⟩ := cat r7 ⟨#[10]⟩ _ [10] f7.out rfl (by simp; omega)
            obtain ⟨r9, e9, f9⟩ := cat sj r8 _ _ hsj'.out f8.out (by simp; omega)
            have hr9 : Hid (r9 = ba (trainsT f (headT k g gap) j ++ trainT (f j))) := f9
            clear f1 f2 f3 f4 f5 f6 f7 f8 f9 hi0 hi1 hi2 hi3
            go_wp2
            refine nameV fun V hV => ?_
            rw [← hV] at hA1 hTb
            clear hV t0 t1 t2 t3 t4
            have c0 := cell_of_row V wr.heap.size 0 _ _ _ hTb
            have c1 := cell_of_row V wr.heap.size 1 _ _ _ hTb
            have c2 := cell_of_row V wr.heap.size 2 _ _ _ hTb
            have c3 := cell_of_row V wr.heap.size 3 _ _ _ hTb
            have c4 := cell_of_row V wr.heap.size 4 _ _ _ hTb
            simp at c0 c1 c2 c3 c4
            have hVV : Below V.heap.size V V.drew := (Below.refl _ _).drew
            clear hTb
            go_region_held3 (fun w' => w'.cell? ⟨wr.heap.size, 0, none⟩ = some (.int .i64 (f j).frm) ∧ w'.cell? ⟨wr.heap.size, 1, none⟩ = some (.int .i64 (f j).ready) ∧ w'.cell? ⟨wr.heap.size, 2, none⟩ = some (.int .i64 (f j).due) ∧ w'.cell? ⟨wr.heap.size, 3, none⟩ = some (.int .i64 (f j).weight)) (first | go_keep | (go_split_ands; refine ⟨?_, ?_, ?_, ?_⟩ <;> exact cellLater hB6 (by assumption))) ((go_at_call 50; refine (l4decimal_any _ _ (by assumption) (by assumption)).mono ?_; rintro _ w6 ⟨rfl, hB6⟩; replace hVV := Below.join hVV (Nat.le_refl _) hB6))
            have c4' := cellLater hVV c4
            have hBV := Below.join (Below.join hBj (Nat.le_refl _) hA1) (Nat.le_refl _) hVV
            have hBx := Below.join hBv (Nat.le_refl _) hBV
            have hlb : (trainsT f (headT k g gap) j ++ trainT (f j)).length ≤ 3000 := by
              have := trainT_len (t := f j) ⟨⟨n00, n01⟩, ⟨n10, n11⟩, ⟨n20, n21⟩, ⟨n30, n31⟩⟩
              rw [List.length_append]; omega
            clear e1 e2 e3 e4 e5 e6 e7 e8 e9 hsj' hlj c0 c1 c2 c3 c4 hA1
            obtain ⟨B, hBe⟩ : ∃ B, B = trainsT f (headT k g gap) j ++ trainT (f j) := ⟨_, rfl⟩
            rw [← hBe] at hr9 hlb
            have hBe' : Hid _ := hBe
            clear hBe
            go_wp2
            clear c4'
            go_loopw [3, 65] (fun oo mm wr2 => ∃ (m : Nat), m ≤ (f j).nl ∧ mm = .int .i64 m ∧ oo = .string (ba (legsT (f j) B m)) ∧ Below w5.heap.size w5 wr2) (fun _ mm _ => (f j).nl - (intOf mm).toNat)
            case atStart => exact ⟨0, Nat.zero_le _, rfl, by rw [hr9.out]; rfl, hBV⟩
            case round =>
              clear hr9 hBV hBx
              obtain ⟨m, hm, rfl, rfl, hBm⟩ := hrel
              obtain ⟨sm, hsm⟩ : ∃ sm, sm = ba (legsT (f j) B m) := ⟨_, rfl⟩
              rw [← hsm]
              have hsm' : Hid _ := hsm
              clear hsm
              have hlm := legsT_len (t := f j) (b := B) (fun m hm => legT_len (hS.leg j hlt m hm)) m hm
              by_cases hmlt : m < (f j).nl
              · have hm' : (m : Int) < ((f j).nl : Int) := by omega
                have hm0 : (0 : Int) ≤ (m : Int) := by omega
                obtain ⟨⟨n00, n01⟩, ⟨n10, n11⟩, ⟨n20, n21⟩⟩ := hS.leg j hlt m hmlt
                have hBw := Below.join hBv (Nat.le_refl _) hBm
                obtain ⟨bl, ol, rfl, _, hbl, g0, g1, g2⟩ := hlg m hmlt
                replace g0 := cellLater hBw g0
                replace g1 := cellLater hBw g1
                replace g2 := cellLater hBw g2
                have hA1 := b1 wr (.cells #[.int .i64 ((f j).leg m).to, .int .i64 ((f j).leg m).run, .int .i64 ((f j).leg m).stay] 73)
                have hTb := Go.heap_alloc_new wr (.cells #[.int .i64 ((f j).leg m).to, .int .i64 ((f j).leg m).run, .int .i64 ((f j).leg m).stay] 73)
                have hi0 := itoa_len n00 n01
                have hi1 := itoa_len n10 n11
                have hi2 := itoa_len n20 n21
                obtain ⟨r1, e1, f1⟩ := cat ⟨#[108, 101, 103, 32]⟩ (ba (Lib.itoa ((f j).leg m).to)) [108, 101, 103, 32] _ rfl rfl (by simp; omega)
                obtain ⟨r2, e2, f2⟩ := cat r1 ⟨#[32, 114, 117, 110, 32]⟩ _ [32, 114, 117, 110, 32] f1.out rfl (by simp; omega)
                obtain ⟨r3, e3, f3⟩ := cat r2 (ba (Lib.itoa ((f j).leg m).run)) _ _ f2.out rfl (by simp; omega)
                obtain ⟨r4, e4, f4⟩ := cat r3 ⟨#[32, 115, 116, 97, 121, 32]⟩ _ [32, 115, 116, 97, 121, 32] f3.out rfl (by simp; omega)
                obtain ⟨r5, e5, f5⟩ := cat r4 (ba (Lib.itoa ((f j).leg m).stay)) _ _ f4.out rfl (by simp; omega)
                obtain ⟨r6, e6, f6⟩ := cat r5 ⟨#[10]⟩ _ [10] f5.out rfl (by simp; omega)
                obtain ⟨r7, e7, f7⟩ := cat sm r6 _ _ hsm'.out f6.out (by simp; omega)
                have hr7 : Hid (r7 = ba (legsT (f j) B (m + 1))) := f7
                clear f1 f2 f3 f4 f5 f6 f7 hi0 hi1 hi2
                go_wp2
                refine nameV fun V hV => ?_
                rw [← hV] at hA1 hTb
                clear hV g0 g1 g2
                have c0 := cell_of_row V wr.heap.size 0 _ _ _ hTb
                have c1 := cell_of_row V wr.heap.size 1 _ _ _ hTb
                have c2 := cell_of_row V wr.heap.size 2 _ _ _ hTb
                simp at c0 c1 c2
                have hVV : Below V.heap.size V V.drew := (Below.refl _ _).drew
                clear hTb
                go_region_held3 (fun w' => w'.cell? ⟨wr.heap.size, 0, none⟩ = some (.int .i64 ((f j).leg m).to) ∧ w'.cell? ⟨wr.heap.size, 1, none⟩ = some (.int .i64 ((f j).leg m).run) ∧ w'.cell? ⟨wr.heap.size, 2, none⟩ = some (.int .i64 ((f j).leg m).stay)) (first | go_keep | (go_split_ands; refine ⟨?_, ?_, ?_⟩ <;> exact cellLater hB6 (by assumption))) ((go_at_call 50; refine (l4decimal_any _ _ (by assumption) (by assumption)).mono ?_; rintro _ w6 ⟨rfl, hB6⟩; replace hVV := Below.join hVV (Nat.le_refl _) hB6))
                go_wp2
                go_roundw
                case rel => exact ⟨m + 1, by omega, by go_num, by rw [hr7.out], Below.join (Below.join hBm (Nat.le_refl _) hA1) (Nat.le_refl _) hVV⟩
                case measure => simp [intOf]; omega
              · obtain rfl : m = (f j).nl := by omega
                go_wp2
                go_roundw
                case rel => exact ⟨j + 1, by omega, by go_num, by rw [hsm'.out, hBe'.out]; rfl, hBm⟩
                case measure => simp [intOf]; omega
          · obtain rfl : j = np := by omega
            go_wp2
            go_ret
            exact ⟨by rw [hsj'.out]; rfl, Below.join hBv (Nat.le_refl _) hBj⟩
  · have hA : writeOf len g gap np f = [] := by unfold writeOf; rw [if_neg hF]
    rw [hA]
    have hok := l1ok_no a len cap g gap a' np cap' f _ hl hl' hml (hI.grow hN) (hT.grow hN) hF
    clear hA hF
    go_enter Tryz.func15, Tryz.ntmps15
    go_wp2_with (go_at_call 29; refine hok.mono ?_; rintro _ w2 ⟨rfl, hB2⟩)
    go_ret
    exact ⟨rfl, Below.join hN (Nat.le_refl _) hB2⟩
end Go.Proofs.YtnjaegeapcijpaaGreatDoor

namespace Go.Proofs.YtnjaegeapcijpaaGreatDoor
open Go.RowKit

def lessP (np : Nat) (P Q : Nat → RowD) : Bool := match first2 np (fun i => (P i).n) (fun i k => decide ((P i).s k = (Q i).s k)) with
  | none => false
  | some (i, k) => decide ((P i).s k < (Q i).s k)
set_option maxRecDepth 20000 in
set_option maxHeartbeats 8000000 in
theorem l3less_any (c c' : Option Addr) (np nc nc' : Nat) (P Q : Nat → RowD) (w : World) (hl : np ≤ 1048576) (hml : ∀ j, j < np → (P j).n ≤ 1048576) (hPQ : ∀ j, j < np → (Q j).n = (P j).n) (hI : IsRows 0 w.heap.size w c np P) (hJ : IsRows 0 w.heap.size w c' np Q) :
    Calls Tryz.prog 79 #[.agg #[.slice c np nc], .agg #[.slice c' np nc']] w fun e w' => e = .returned (.bool (lessP np P Q)) ∧ Below w.heap.size w w' := by
  have hA := b2 w (.cells #[.slice c np nc] 30) (.cells #[.slice c' np nc'] 30)
  have x0 : ((w.alloc (.cells #[.slice c np nc] 30)).alloc (.cells #[.slice c' np nc'] 30)).cell? ⟨w.heap.size, 0, none⟩ = some (.slice c np nc) := cellLater (b1 _ _) (by simp)
  have y0 : ((w.alloc (.cells #[.slice c np nc] 30)).alloc (.cells #[.slice c' np nc'] 30)).cell? ⟨w.heap.size + 1, 0, none⟩ = some (.slice c' np nc') := by
    rw [show w.heap.size + 1 = (w.alloc (.cells #[.slice c np nc] 30)).heap.size from (World.size_alloc ..).symm]
    simp
  go_enter Tryz.func79, Tryz.ntmps79
  obtain ⟨W, hW⟩ : ∃ W, W = (w.alloc (.cells #[.slice c np nc] 30)).alloc (.cells #[.slice c' np nc'] 30) := ⟨_, rfl⟩
  rw [← hW] at hA x0 y0
  have hI1 := hI.grow hA
  have hJ1 := hJ.grow hA
  go_wp2
  rw [← hW]
  clear hW
  go_loopw [10] (fun cc wr => ∃ i : Nat, i ≤ np ∧ cc = .int .i64 i ∧ (∀ j, j < i → ∀ m, m < (P j).n → (P j).s m = (Q j).s m) ∧ Below W.heap.size W wr) (fun cc _ => np - (intOf cc).toNat)
  case atStart => exact ⟨0, Nat.zero_le _, rfl, fun j hj => absurd hj (Nat.not_lt_zero j), Below.refl _ _⟩
  case round =>
    obtain ⟨i, hi, rfl, hsame, hB⟩ := hrel
    have hsame' : Hid _ := hsame
    clear hsame
    by_cases hlt : i < np
    · have hlt' : (i : Int) < (np : Int) := by omega
      have hi0 : (0 : Int) ≤ (i : Int) := by omega
      obtain ⟨bp, op, lp, lc, rfl, _, _, p0, hin, hm1⟩ := hI1 i hlt
      obtain ⟨bq, oq, lq, lqc, rfl, _, _, q0, hjn, hm2⟩ := hJ1 i hlt
      rw [hPQ i hlt] at q0 hjn
      have x1 := cellLater hB x0
      have y1 := cellLater hB y0
      have p1 := cellLater hB p0
      have q1 := cellLater hB q0
      have hmi := hml i hlt
      go_wp2
      clear x1 y1 p1 q1
      go_loopw [19] (fun cc wq => ∃ m : Nat, m ≤ (P i).n ∧ cc = .int .i64 m ∧ (∀ k, k < m → (P i).s k = (Q i).s k) ∧ Below W.heap.size W wq) (fun cc _ => (P i).n - (intOf cc).toNat)
      case atStart => exact ⟨0, Nat.zero_le _, rfl, fun j hj => absurd hj (Nat.not_lt_zero j), hB⟩
      case round =>
        clear hB
        obtain ⟨m, hm, rfl, hs2, hB⟩ := hrel
        have hs2' : Hid _ := hs2
        clear hs2
        by_cases hmlt : m < (P i).n
        · have hmlt' : (m : Int) < ((P i).n : Int) := by omega
          have hm0 : (0 : Int) ≤ (m : Int) := by omega
          obtain ⟨b3, o3, rfl, _, _, r0⟩ := hin m hmlt
          obtain ⟨b4, o4, rfl, _, _, s0⟩ := hjn m hmlt
          have x1 := cellLater hB x0
          have y1 := cellLater hB y0
          have p1 := cellLater hB p0
          have q1 := cellLater hB q0
          have r1 := cellLater hB r0
          have s1 := cellLater hB s0
          go_wp2
          go_region_held3 (fun w' => w'.cell? ⟨w.heap.size, 0, none⟩ = some (.slice (some ⟨bp, op, none⟩) np nc) ∧ w'.cell? ⟨w.heap.size + 1, 0, none⟩ = some (.slice (some ⟨bq, oq, none⟩) np nc') ∧ w'.cell? ⟨bp, op + i, none⟩ = some (.slice (some ⟨b3, o3, none⟩) (P i).n lc) ∧ w'.cell? ⟨bq, oq + i, none⟩ = some (.slice (some ⟨b4, o4, none⟩) (P i).n lqc) ∧ w'.cell? ⟨b3, o3 + m, none⟩ = some (.int .i64 ((P i).s m)) ∧ w'.cell? ⟨b4, o4 + m, none⟩ = some (.int .i64 ((Q i).s m))) (go_keep) (fail)
          by_cases hne : (P i).s m = (Q i).s m
          · have hne' : Hid ((P i).s m = (Q i).s m) := hne
            rw [hne]
            clear hne
            go_wp2
            go_roundw
            case rel => exact ⟨m + 1, by omega, rfl, fun k hk => (by by_cases e : k = m; rw [e]; exact hne'.out; exact hs2'.out k (by omega)), Below.join hB (Nat.le_refl _) (Below.refl _ _).drew⟩
            case measure => simp only [intOf]; omega
          · have hneb : ((P i).s m == (Q i).s m) = false := by simpa using hne
            have hless : lessP np P Q = decide ((P i).s m < (Q i).s m) := by
              unfold lessP
              rw [first2_some (len := fun i => (P i).n) (p := fun i k => decide ((P i).s k = (Q i).s k)) hlt hmlt (by simpa using hne) (fun k hk => decide_eq_true (hs2'.out k hk)) (fun j hj k hk => decide_eq_true (hsame'.out j hj k hk))]
            have hless' : Hid _ := hless
            clear hless
            have hBd := Below.join hB (Nat.le_refl _) (Below.refl _ _).drew
            go_wp2
            go_region_held3 (fun w' => w'.cell? ⟨w.heap.size, 0, none⟩ = some (.slice (some ⟨bp, op, none⟩) np nc) ∧ w'.cell? ⟨w.heap.size + 1, 0, none⟩ = some (.slice (some ⟨bq, oq, none⟩) np nc') ∧ w'.cell? ⟨bp, op + i, none⟩ = some (.slice (some ⟨b3, o3, none⟩) (P i).n lc) ∧ w'.cell? ⟨bq, oq + i, none⟩ = some (.slice (some ⟨b4, o4, none⟩) (P i).n lqc) ∧ w'.cell? ⟨b3, o3 + m, none⟩ = some (.int .i64 ((P i).s m)) ∧ w'.cell? ⟨b4, o4 + m, none⟩ = some (.int .i64 ((Q i).s m))) (go_keep) (fail)
            go_wp2
            go_ret
            exact ⟨by rw [hless'.out]; rfl, Below.join hA (Nat.le_refl _) hBd.drew⟩
        · obtain rfl : m = (P i).n := by omega
          go_wp2
          go_roundw
          case rel => exact ⟨i + 1, by omega, rfl, fun j hj k hk => (by by_cases e : j = i; subst e; exact hs2'.out k hk; exact hsame'.out j (by omega) k hk), hB⟩
          case measure => simp only [intOf]; omega
    · obtain rfl : i = np := by omega
      have hless : lessP i P Q = false := by
        unfold lessP
        rw [first2_none (len := fun i => (P i).n) (p := fun i k => decide ((P i).s k = (Q i).s k)) (fun j hj k hk => decide_eq_true (hsame'.out j hj k hk))]
      have hless' : Hid _ := hless
      clear hless
      go_wp2
      go_ret
      exact ⟨by rw [hless'.out]; rfl, Below.join hA (Nat.le_refl _) hB⟩
end Go.Proofs.YtnjaegeapcijpaaGreatDoor

namespace Go.Proofs.YtnjaegeapcijpaaGreatDoor
open Go.RowKit

theorem new5s (w : World) (a b c d e : Value) (t : TypeId) : (w.alloc (.cells #[a, b, c, d, e] t)).cell? ⟨w.heap.size, 0, none⟩ = some a ∧ (w.alloc (.cells #[a, b, c, d, e] t)).cell? ⟨w.heap.size, 1, none⟩ = some b ∧ (w.alloc (.cells #[a, b, c, d, e] t)).cell? ⟨w.heap.size, 2, none⟩ = some c ∧ (w.alloc (.cells #[a, b, c, d, e] t)).cell? ⟨w.heap.size, 3, none⟩ = some d ∧ (w.alloc (.cells #[a, b, c, d, e] t)).cell? ⟨w.heap.size, 4, none⟩ = some e := by simp
def goF (t : TrainD) (last : Int) (k : Nat) (a : Int) : Nat → Int
  | 0 => a
  | m + 1 => maxZ (goF t last k a m + (t.leg (k + m)).stay) last + (t.leg (k + m)).run
def beginF (t : TrainD) (r : RowD) : Int := if 0 < r.n then r.s (r.n - 1) + (t.leg (r.n - 1)).run else t.ready
def endF (t : TrainD) (r : RowD) (last : Int) : Int := goF t last r.n (beginF t r) (t.nl - r.n)
def floorP (f : Nat → TrainD) (P : Nat → RowD) (last : Int) : Nat → Int
  | 0 => 0
  | i + 1 => floorP f P last i + lateOf (f i) (endF (f i) (P i) last)
theorem goF_bd {t : TrainD} (hR : RightT t) {last a : Int} {k : Nat} (ha : 0 ≤ a ∧ a ≤ 700000) (hl : 0 ≤ last ∧ last ≤ 600000) : ∀ m, k + m ≤ t.nl → 0 ≤ goF t last k a m ∧ goF t last k a m ≤ 700000 + 20000 * (m : Int)
  | 0, _ => by simp only [goF]; omega
  | m + 1, hm => by
    have ih := goF_bd hR (k := k) ha hl m (by omega)
    have h := hR.leg (k + m) (by omega)
    simp only [goF]
    unfold maxZ
    split <;> omega
theorem beginF_bd {np : Nat} {f : Nat → TrainD} {P : Nat → RowD} {last : Int} {len : Nat} (hR : RightL len np f) (hQ : PartP np f P last) {i : Nat} (hi : i < np) : 0 ≤ beginF (f i) (P i) ∧ beginF (f i) (P i) ≤ 700000 := by
  have h := hR.train i hi
  have h0 := h.r0
  have h1 := h.r1
  have h2 := hQ.l1
  unfold beginF
  split
  · have h3 := hQ.at0 i hi ((P i).n - 1) (by omega)
    have h4 := h.leg ((P i).n - 1) (by have := hQ.le i hi; omega)
    omega
  · omega
theorem endF_bd {np : Nat} {f : Nat → TrainD} {P : Nat → RowD} {last : Int} {len : Nat} (hR : RightL len np f) (hQ : PartP np f P last) {i : Nat} (hi : i < np) : 0 ≤ endF (f i) (P i) last ∧ endF (f i) (P i) last ≤ 900000 := by
  have h := hR.train i hi
  have hn := h.nl
  have hle := hQ.le i hi
  have := goF_bd h (k := (P i).n) (beginF_bd hR hQ hi) ⟨hQ.l0, hQ.l1⟩ ((f i).nl - (P i).n) (by omega)
  unfold endF
  omega
theorem lateOf_big {t : TrainD} (h : RightT t) {e : Int} (h0 : 0 ≤ e) (h1 : e ≤ 900000) : 0 ≤ lateOf t e ∧ lateOf t e ≤ 90000000 := by
  have hd := h.d0
  have hw := h.w0
  have hw1 := h.w1
  unfold lateOf
  split
  · omega
  · have hx : 0 ≤ e - t.due := by omega
    have h2 := Int.mul_nonneg (show 0 ≤ t.weight by omega) hx
    have h3 : t.weight * (e - t.due) ≤ 100 * (e - t.due) := Int.mul_le_mul_of_nonneg_right hw1 hx
    omega
theorem floorP_bd {np : Nat} {f : Nat → TrainD} {P : Nat → RowD} {last : Int} {len : Nat} (hR : RightL len np f) (hQ : PartP np f P last) : ∀ i, i ≤ np → 0 ≤ floorP f P last i ∧ floorP f P last i ≤ 90000000 * (i : Int)
  | 0, _ => by simp [floorP]
  | i + 1, hi => by
    have ih := floorP_bd hR hQ i (by omega)
    have he := endF_bd hR hQ (show i < np by omega)
    have hl := lateOf_big (hR.train i (by omega)) he.1 he.2
    simp only [floorP]
    omega
set_option maxHeartbeats 1000000 in
theorem l1late_big (t : TrainD) (e : Int) (la : Option Addr) (lc : Nat) (w : World) (hR : RightT t) (h0 : 0 ≤ e) (h1 : e ≤ 900000) :
    Calls Tryz.prog 113 #[.agg #[.int .i64 t.frm, .int .i64 t.ready, .int .i64 t.due, .int .i64 t.weight, .slice la t.nl lc], .int .i64 e] w fun ev w' => ev = .returned (.int .i64 (lateOf t e)) ∧ Below w.heap.size w w' := by
  have hd0 := hR.d0
  have hd1 := hR.d1
  have hw0 := hR.w0
  have hw1 := hR.w1
  obtain ⟨lb0, lb1⟩ := lateOf_big hR h0 h1
  by_cases hc : e ≤ t.due
  · have hL : lateOf t e = 0 := by unfold lateOf; rw [if_pos hc]
    rw [hL]
    clear hL lb0 lb1
    go_enter Tryz.func113, Tryz.ntmps113
    go_wp2
    go_ret
    exact ⟨rfl, b1 _ _⟩
  · have hL : lateOf t e = t.weight * (e - t.due) := by unfold lateOf; rw [if_neg hc]
    rw [hL] at lb0 lb1 ⊢
    clear hL
    go_enter Tryz.func113, Tryz.ntmps113
    go_wp2
    go_ret
    exact ⟨rfl, b1 _ _⟩
set_option maxRecDepth 20000 in
set_option maxHeartbeats 8000000 in
theorem l3floor_any (b : Nat) (a : Option Addr) (len cap : Nat) (gap : Int) (a' : Option Addr) (np cap' : Nat) (f : Nat → TrainD) (c : Option Addr) (nc : Nat) (P : Nat → RowD) (last : Int) (w : World) (hR : RightL len np f) (hQ : PartP np f P last)
    (hL : L2 w b a len cap gap a' np cap' c nc last) (hT : IsTrains 0 w.heap.size w a' np f) (hP : IsRows 0 w.heap.size w c np P) :
    Calls Tryz.prog 78 #[.pointer (some ⟨b, 0, none⟩)] w fun e w' => e = .returned (.int .i64 (floorP f P last np)) ∧ Below w.heap.size w w' := by
  have htr := hR.tr
  have y2 := hL.c2
  go_enter Tryz.func78, Tryz.ntmps78
  go_wp2
  clear y2
  go_loopw [3, 14] (fun c3 c14 wr => ∃ i : Nat, i ≤ np ∧ c14 = .int .i64 i ∧ c3 = .int .i64 (floorP f P last i) ∧ Below w.heap.size w wr) (fun _ c14 _ => np - (intOf c14).toNat)
  case atStart => exact ⟨0, Nat.zero_le _, rfl, rfl, Below.refl _ _⟩
  case round =>
    obtain ⟨i, hi, rfl, rfl, hB⟩ := hrel
    have hfb := floorP_bd hR hQ i hi
    by_cases hlt : i < np
    · have hlt' : (i : Int) < (np : Int) := by omega
      have hi0 : (0 : Int) ≤ (i : Int) := by omega
      have hRt := hR.train i hlt
      have hnl := hRt.nl
      have hle := hQ.le i hlt
      have hbd := beginF_bd hR hQ hlt
      have hed := endF_bd hR hQ hlt
      have hlb := lateOf_big hRt hed.1 hed.2
      obtain ⟨bt, ot, la, lc, rfl, _, _, t0, t1, t2, t3, t4, hlg, _⟩ := hT i hlt
      obtain ⟨bp, op, lp, lpc, rfl, _, _, p0, hin, _⟩ := hP i hlt
      have t0' := cellLater hB t0
      have t1' := cellLater hB t1
      have t2' := cellLater hB t2
      have t3' := cellLater hB t3
      have t4' := cellLater hB t4
      have hA := b1 wr (.cells #[.int .i64 (f i).frm, .int .i64 (f i).ready, .int .i64 (f i).due, .int .i64 (f i).weight, .slice la (f i).nl lc] 71)
      have hBA := Below.join hB (Nat.le_refl _) hA
      have x3 := cellLater hBA hL.c3
      have x4 := cellLater hBA hL.c4
      have p1 := cellLater hBA p0
      obtain ⟨m0, m1, m2, m3, m4⟩ := new5s wr (.int .i64 (f i).frm) (.int .i64 (f i).ready) (.int .i64 (f i).due) (.int .i64 (f i).weight) (.slice la (f i).nl lc) 71
      by_cases hk0 : 0 < (P i).n
      · have hk0' : (0 : Int) < ((P i).n : Int) := by omega
        obtain ⟨e, he⟩ : ∃ e, (P i).n = e + 1 := ⟨(P i).n - 1, by omega⟩
        have he1 : e < (P i).n := by omega
        have hen : e < (f i).nl := by omega
        have he0 : (0 : Int) ≤ (e : Int) := by omega
        have he2 : (e : Int) < ((P i).n : Int) := by omega
        have he3 : (e : Int) < ((f i).nl : Int) := by omega
        have hw1 : IntKind.i64.wrap (((P i).n : Int) - 1) = (e : Int) := by rw [IntKind.wrap_i64]; omega
        have hbv : beginF (f i) (P i) = (P i).s e + ((f i).leg e).run := by unfold beginF; rw [if_pos hk0, show (P i).n - 1 = e by omega]
        have hw3 : IntKind.i64.wrap ((P i).s e + ((f i).leg e).run) = (P i).s e + ((f i).leg e).run := by rw [IntKind.wrap_i64]; omega
        obtain ⟨bi, oi, rfl, _, _, q0⟩ := hin e he1
        obtain ⟨bl, ol, hla, _, _, l0, l1, l2⟩ := hlg e hen
        have m4k : (wr.alloc (.cells #[.int .i64 (f i).frm, .int .i64 (f i).ready, .int .i64 (f i).due, .int .i64 (f i).weight, .slice la (f i).nl lc] 71)).cell? ⟨wr.heap.size, 4, none⟩ = some (.slice (some ⟨bl, ol, none⟩) (f i).nl lc) := by rw [m4, hla]
        have m4h : Hid _ := m4
        have hla' : Hid _ := hla
        clear m4 hla
        have q1 := cellLater hBA q0
        have l1' := cellLater hBA l1
        clear he
        go_wp2
        go_region_held3 (fun w' => w'.cell? ⟨b, 3, none⟩ = some (.slice (some ⟨bp, op, none⟩) np nc) ∧ w'.cell? ⟨bp, op + i, none⟩ = some (.slice (some ⟨bi, oi, none⟩) (P i).n lpc) ∧ w'.cell? ⟨bi, oi + e, none⟩ = some (.int .i64 ((P i).s e)) ∧ w'.cell? ⟨wr.heap.size, 4, none⟩ = some (.slice (some ⟨bl, ol, none⟩) (f i).nl lc) ∧ w'.cell? ⟨bl, ol + e * 3 + 1, none⟩ = some (.int .i64 ((f i).leg e).run)) (go_keep) (fail)
        go_wp2
        have m4 := m4h.out
        clear m4k m4h hla' q0 q1 l0 l1 l2 l1'
        clear hw3 hw1
        have hBI : Below w.heap.size w (wr.alloc (.cells #[.int .i64 (f i).frm, .int .i64 (f i).ready, .int .i64 (f i).due, .int .i64 (f i).weight, .slice la (f i).nl lc] 71)).drew := hBA.drew
        have mI4 : (wr.alloc (.cells #[.int .i64 (f i).frm, .int .i64 (f i).ready, .int .i64 (f i).due, .int .i64 (f i).weight, .slice la (f i).nl lc] 71)).drew.cell? ⟨wr.heap.size, 4, none⟩ = some (.slice la (f i).nl lc) := m4
        have mI0 : (wr.alloc (.cells #[.int .i64 (f i).frm, .int .i64 (f i).ready, .int .i64 (f i).due, .int .i64 (f i).weight, .slice la (f i).nl lc] 71)).drew.cell? ⟨wr.heap.size, 0, none⟩ = some (.int .i64 (f i).frm) := m0
        have mI1 : (wr.alloc (.cells #[.int .i64 (f i).frm, .int .i64 (f i).ready, .int .i64 (f i).due, .int .i64 (f i).weight, .slice la (f i).nl lc] 71)).drew.cell? ⟨wr.heap.size, 1, none⟩ = some (.int .i64 (f i).ready) := m1
        have mI2 : (wr.alloc (.cells #[.int .i64 (f i).frm, .int .i64 (f i).ready, .int .i64 (f i).due, .int .i64 (f i).weight, .slice la (f i).nl lc] 71)).drew.cell? ⟨wr.heap.size, 2, none⟩ = some (.int .i64 (f i).due) := m2
        have mI3 : (wr.alloc (.cells #[.int .i64 (f i).frm, .int .i64 (f i).ready, .int .i64 (f i).due, .int .i64 (f i).weight, .slice la (f i).nl lc] 71)).drew.cell? ⟨wr.heap.size, 3, none⟩ = some (.int .i64 (f i).weight) := m3
        have xI4 := cellLater hBI hL.c4
        clear x3 x4 p1 m0 m1 m2 m3 m4 t0 t1 t2 t3 t4 t0' t1' t2' t3' t4' hA hBA
        obtain ⟨WI, hWI⟩ : ∃ WI, WI = (wr.alloc (.cells #[.int .i64 (f i).frm, .int .i64 (f i).ready, .int .i64 (f i).due, .int .i64 (f i).weight, .slice la (f i).nl lc] 71)).drew := ⟨_, rfl⟩
        rw [← hWI] at hBI mI0 mI1 mI2 mI3 mI4 xI4 ⊢
        clear hWI
        go_loop [6, 7] (fun c6 c7 => ∃ m : Nat, (P i).n + m ≤ (f i).nl ∧ c7 = .int .i64 ((P i).n + m : Nat) ∧ c6 = .int .i64 (goF (f i) last (P i).n (beginF (f i) (P i)) m)) (fun _ c7 => (f i).nl - (intOf c7).toNat)
        case atStart => exact ⟨0, by omega, rfl, by rw [goF, hbv]⟩
        case round =>
          obtain ⟨m, hm, rfl, rfl⟩ := hrel
          have hgb := goF_bd hRt (k := (P i).n) hbd ⟨hQ.l0, hQ.l1⟩ m hm
          by_cases hmlt : (P i).n + m < (f i).nl
          · have hmlt' : (((P i).n + m : Nat) : Int) < ((f i).nl : Int) := by omega
            have hm0' : (0 : Int) ≤ (((P i).n + m : Nat) : Int) := by omega
            obtain ⟨bl, ol, rfl, _, _, l0, l1, l2⟩ := hlg ((P i).n + m) hmlt
            obtain ⟨r0, r1, r2, r3⟩ := hRt.leg ((P i).n + m) hmlt
            have l1' := cellLater hBI l1
            have l2' := cellLater hBI l2
            have hst : goF (f i) last (P i).n (beginF (f i) (P i)) (m + 1) = maxZ (goF (f i) last (P i).n (beginF (f i) (P i)) m + ((f i).leg ((P i).n + m)).stay) last + ((f i).leg ((P i).n + m)).run := rfl
            have hl01 := hQ.l1
            have hl00 := hQ.l0
            have hst' : Hid _ := hst
            clear hst
            obtain ⟨G, hG⟩ : ∃ G, G = goF (f i) last (P i).n (beginF (f i) (P i)) m := ⟨_, rfl⟩
            rw [← hG] at hgb ⊢
            have hG' : Hid _ := hG
            clear hG
            obtain ⟨q, hq⟩ : ∃ q, q = (P i).n + m := ⟨_, rfl⟩
            rw [← hq] at hmlt' hm0' l1' l2' r0 r1 r2 r3 ⊢
            have hq' : Hid _ := hq
            have hq10 : q ≤ 10 := by omega
            clear hq l0 l1 l2
            by_cases hmx : G + ((f i).leg q).stay < last
            · go_wp2
              go_round
              case rel => exact ⟨m + 1, by omega, by rw [hq'.out]; rfl, by rw [hst'.out, ← hG'.out, ← hq'.out]; unfold maxZ; rw [if_pos hmx]⟩
              case measure => simp only [intOf]; omega
            · go_wp2
              go_round
              case rel => exact ⟨m + 1, by omega, by rw [hq'.out]; rfl, by rw [hst'.out, ← hG'.out, ← hq'.out]; unfold maxZ; rw [if_neg hmx]⟩
              case measure => simp only [intOf]; omega
          · have hme : m = (f i).nl - (P i).n := by omega
            have hend : goF (f i) last (P i).n (beginF (f i) (P i)) m = endF (f i) (P i) last := by rw [hme]; rfl
            have hnm : (P i).n + m = (f i).nl := by omega
            rw [hend, hnm]
            have hLt := l1late_big (f i) (endF (f i) (P i) last) la lc WI hRt hed.1 hed.2
            clear hme hend hnm
            go_wp2_with (go_at_call 113; fail)
            refine hLt.mono ?_
            rintro _ w7 ⟨rfl, hB7⟩
            go_wp2
            go_roundw
            case rel => exact ⟨i + 1, by omega, rfl, rfl, Below.join hBI (Nat.le_refl _) hB7⟩
            case measure => simp only [intOf]; omega
      · have hk0' : ¬ ((0 : Int) < ((P i).n : Int)) := by omega
        have hbv : beginF (f i) (P i) = (f i).ready := by unfold beginF; rw [if_neg hk0]
        go_wp2
        have hBI : Below w.heap.size w (wr.alloc (.cells #[.int .i64 (f i).frm, .int .i64 (f i).ready, .int .i64 (f i).due, .int .i64 (f i).weight, .slice la (f i).nl lc] 71)) := hBA
        have mI4 : (wr.alloc (.cells #[.int .i64 (f i).frm, .int .i64 (f i).ready, .int .i64 (f i).due, .int .i64 (f i).weight, .slice la (f i).nl lc] 71)).cell? ⟨wr.heap.size, 4, none⟩ = some (.slice la (f i).nl lc) := m4
        have mI0 : (wr.alloc (.cells #[.int .i64 (f i).frm, .int .i64 (f i).ready, .int .i64 (f i).due, .int .i64 (f i).weight, .slice la (f i).nl lc] 71)).cell? ⟨wr.heap.size, 0, none⟩ = some (.int .i64 (f i).frm) := m0
        have mI1 : (wr.alloc (.cells #[.int .i64 (f i).frm, .int .i64 (f i).ready, .int .i64 (f i).due, .int .i64 (f i).weight, .slice la (f i).nl lc] 71)).cell? ⟨wr.heap.size, 1, none⟩ = some (.int .i64 (f i).ready) := m1
        have mI2 : (wr.alloc (.cells #[.int .i64 (f i).frm, .int .i64 (f i).ready, .int .i64 (f i).due, .int .i64 (f i).weight, .slice la (f i).nl lc] 71)).cell? ⟨wr.heap.size, 2, none⟩ = some (.int .i64 (f i).due) := m2
        have mI3 : (wr.alloc (.cells #[.int .i64 (f i).frm, .int .i64 (f i).ready, .int .i64 (f i).due, .int .i64 (f i).weight, .slice la (f i).nl lc] 71)).cell? ⟨wr.heap.size, 3, none⟩ = some (.int .i64 (f i).weight) := m3
        have xI4 := cellLater hBI hL.c4
        clear x3 x4 p1 m0 m1 m2 m3 m4 t0 t1 t2 t3 t4 t0' t1' t2' t3' t4' hA hBA
        obtain ⟨WI, hWI⟩ : ∃ WI, WI = (wr.alloc (.cells #[.int .i64 (f i).frm, .int .i64 (f i).ready, .int .i64 (f i).due, .int .i64 (f i).weight, .slice la (f i).nl lc] 71)) := ⟨_, rfl⟩
        rw [← hWI] at hBI mI0 mI1 mI2 mI3 mI4 xI4 ⊢
        clear hWI
        go_loop [6, 7] (fun c6 c7 => ∃ m : Nat, (P i).n + m ≤ (f i).nl ∧ c7 = .int .i64 ((P i).n + m : Nat) ∧ c6 = .int .i64 (goF (f i) last (P i).n (beginF (f i) (P i)) m)) (fun _ c7 => (f i).nl - (intOf c7).toNat)
        case atStart => exact ⟨0, by omega, rfl, by rw [goF, hbv]⟩
        case round =>
          obtain ⟨m, hm, rfl, rfl⟩ := hrel
          have hgb := goF_bd hRt (k := (P i).n) hbd ⟨hQ.l0, hQ.l1⟩ m hm
          by_cases hmlt : (P i).n + m < (f i).nl
          · have hmlt' : (((P i).n + m : Nat) : Int) < ((f i).nl : Int) := by omega
            have hm0' : (0 : Int) ≤ (((P i).n + m : Nat) : Int) := by omega
            obtain ⟨bl, ol, rfl, _, _, l0, l1, l2⟩ := hlg ((P i).n + m) hmlt
            obtain ⟨r0, r1, r2, r3⟩ := hRt.leg ((P i).n + m) hmlt
            have l1' := cellLater hBI l1
            have l2' := cellLater hBI l2
            have hst : goF (f i) last (P i).n (beginF (f i) (P i)) (m + 1) = maxZ (goF (f i) last (P i).n (beginF (f i) (P i)) m + ((f i).leg ((P i).n + m)).stay) last + ((f i).leg ((P i).n + m)).run := rfl
            have hl01 := hQ.l1
            have hl00 := hQ.l0
            have hst' : Hid _ := hst
            clear hst
            obtain ⟨G, hG⟩ : ∃ G, G = goF (f i) last (P i).n (beginF (f i) (P i)) m := ⟨_, rfl⟩
            rw [← hG] at hgb ⊢
            have hG' : Hid _ := hG
            clear hG
            obtain ⟨q, hq⟩ : ∃ q, q = (P i).n + m := ⟨_, rfl⟩
            rw [← hq] at hmlt' hm0' l1' l2' r0 r1 r2 r3 ⊢
            have hq' : Hid _ := hq
            have hq10 : q ≤ 10 := by omega
            clear hq l0 l1 l2
            by_cases hmx : G + ((f i).leg q).stay < last
            · go_wp2
              go_round
              case rel => exact ⟨m + 1, by omega, by rw [hq'.out]; rfl, by rw [hst'.out, ← hG'.out, ← hq'.out]; unfold maxZ; rw [if_pos hmx]⟩
              case measure => simp only [intOf]; omega
            · go_wp2
              go_round
              case rel => exact ⟨m + 1, by omega, by rw [hq'.out]; rfl, by rw [hst'.out, ← hG'.out, ← hq'.out]; unfold maxZ; rw [if_neg hmx]⟩
              case measure => simp only [intOf]; omega
          · have hme : m = (f i).nl - (P i).n := by omega
            have hend : goF (f i) last (P i).n (beginF (f i) (P i)) m = endF (f i) (P i) last := by rw [hme]; rfl
            have hnm : (P i).n + m = (f i).nl := by omega
            rw [hend, hnm]
            have hLt := l1late_big (f i) (endF (f i) (P i) last) la lc WI hRt hed.1 hed.2
            clear hme hend hnm
            go_wp2_with (go_at_call 113; fail)
            refine hLt.mono ?_
            rintro _ w7 ⟨rfl, hB7⟩
            go_wp2
            go_roundw
            case rel => exact ⟨i + 1, by omega, rfl, rfl, Below.join hBI (Nat.le_refl _) hB7⟩
            case measure => simp only [intOf]; omega
    · obtain rfl : i = np := by omega
      go_wp2
      go_ret
      exact ⟨rfl, hB⟩
end Go.Proofs.YtnjaegeapcijpaaGreatDoor
