/-
  The laws' own copies of an argument can be written into; what a store into them leaves as it was.
-/
import Derived.Test.YthnlkpifafklkaaGreatDoorPlansC
namespace Go.Proofs.YthnlkpifafklkaaGreatDoor
open Go.RowKit

/-- m places that can be written, in a block from lo on and below hi -/
def Soft (lo hi : Nat) (W : World) (a : Option Addr) (m : Nat) : Prop :=
  ∀ i, i < m → ∃ b off v, a = some ⟨b, off, none⟩ ∧ lo ≤ b ∧ b < hi ∧ W.cell? ⟨b, off + i, none⟩ = some v ∧ W.frozen? ⟨b, off + i, none⟩ = false
/-- only blocks from lo on and below hi were written, and what could be written still can -/
structure Mid (lo hi : Nat) (w w' : World) : Prop where
  below : Below lo w w'
  above : ∀ x, hi ≤ x → x < w.heap.size → w'.heap[x]? = w.heap[x]?
  keeps : ∀ b o v, w.cell? ⟨b, o, none⟩ = some v → w.frozen? ⟨b, o, none⟩ = false → ∃ v', w'.cell? ⟨b, o, none⟩ = some v' ∧ w'.frozen? ⟨b, o, none⟩ = false
theorem Mid.refl (lo hi : Nat) (w : World) : Mid lo hi w w := ⟨Below.refl _ _, fun _ _ _ => rfl, fun _ _ v h f => ⟨v, h, f⟩⟩
theorem Mid.trans {lo hi : Nat} {a b c : World} (h : Mid lo hi a b) (k : Mid lo hi b c) : Mid lo hi a c :=
  ⟨h.below.trans k.below, fun x h0 h1 => (k.above x h0 (Nat.lt_of_lt_of_le h1 h.below.size)).trans (h.above x h0 h1), fun b o v hc hf => by
    obtain ⟨v', h1, h2⟩ := h.keeps b o v hc hf
    exact k.keeps b o v' h1 h2⟩
theorem Mid.mono {lo hi lo' hi' : Nat} {a b : World} (h : Mid lo hi a b) (h0 : lo' ≤ lo) (h1 : hi ≤ hi') : Mid lo' hi' a b :=
  ⟨h.below.mono h0, fun x hx => h.above x (by omega), h.keeps⟩
theorem Mid.set {lo hi : Nat} {w : World} {b o : Nat} (h0 : lo ≤ b) (h1 : b < hi) (x : Value) : Mid lo hi w (w.setCell ⟨b, o, none⟩ x) :=
  ⟨(Below.refl _ _).setCell (p := ⟨b, o, none⟩) h0 x, fun y hy _ => Below.heap_setCell w ⟨b, o, none⟩ x y (by simp; omega), fun b' o' v hc hf => by
    obtain ⟨v', hv'⟩ := cell?_setCell_some (w := w) (p := ⟨b, o, none⟩) (x := x) hc
    exact ⟨v', hv', by rw [World.frozen?_setCell]; exact hf⟩⟩
theorem Mid.ofBelow {lo hi : Nat} {w w' : World} (h : Below w.heap.size w w') (hlo : lo ≤ w.heap.size) : Mid lo hi w w' :=
  ⟨h.mono hlo, fun x _ hx => h.block x hx, fun b o v hc hf => ⟨v, cellLater h hc, (h.frozen (p := ⟨b, o, none⟩) (ltCell hc)).trans hf⟩⟩
theorem Mid.cellAbove {lo hi : Nat} {w w' : World} (h : Mid lo hi w w') {b o : Nat} {v : Value} (hb : hi ≤ b) (hc : w.cell? ⟨b, o, none⟩ = some v) : w'.cell? ⟨b, o, none⟩ = some v :=
  (World.cell?_of_block (w := w) (w' := w') (a := ⟨b, o, none⟩) (h.above b hb (ltCell hc))).trans hc
theorem Mid.cellBelow {lo hi : Nat} {w w' : World} (h : Mid lo hi w w') {b o : Nat} {v : Value} (hb : b < lo) (hc : w.cell? ⟨b, o, none⟩ = some v) : w'.cell? ⟨b, o, none⟩ = some v :=
  (h.below.cell (p := ⟨b, o, none⟩) hb).trans hc
theorem Mid.sameBelow {lo hi m n : Nat} {w w' : World} (h : Mid lo hi w w') (hn : n ≤ lo) : Same m n w w' := Same.below h.below hn
theorem Mid.sameAbove {lo hi m n : Nat} {w w' : World} (h : Mid lo hi w w') (hm : hi ≤ m) (hn : n ≤ w.heap.size) : Same m n w w' := fun k h0 h1 => h.above k (by omega) (by omega)

theorem Soft.mid {lo hi lo' hi' : Nat} {W W' : World} {a : Option Addr} {m : Nat} (h : Soft lo hi W a m) (hm : Mid lo' hi' W W') : Soft lo hi W' a m := fun i hi => by
  obtain ⟨b, off, v, e, h0, h1, hc, hf⟩ := h i hi
  obtain ⟨v', hc', hf'⟩ := hm.keeps b _ v hc hf
  exact ⟨b, off, v', e, h0, h1, hc', hf'⟩
theorem Soft.later {lo hi : Nat} {W W' : World} {a : Option Addr} {m : Nat} (h : Soft lo hi W a m) (hb : Below W.heap.size W W') : Soft lo hi W' a m :=
  h.mid (Mid.ofBelow (lo := 0) (hi := 0) hb (Nat.zero_le _))
theorem Soft.set {lo hi : Nat} {W : World} {a : Option Addr} {m : Nat} (h : Soft lo hi W a m) (p : Addr) (x : Value) : Soft lo hi (W.setCell p x) a m := fun i hi => by
  obtain ⟨b, off, v, e, h0, h1, hc, hf⟩ := h i hi
  obtain ⟨v', hv'⟩ := cell?_setCell_some (w := W) (p := p) (x := x) hc
  exact ⟨b, off, v', e, h0, h1, hv', by rw [World.frozen?_setCell]; exact hf⟩
theorem Soft.mono {lo hi lo' hi' : Nat} {W : World} {a : Option Addr} {m : Nat} (h : Soft lo hi W a m) (h0 : lo' ≤ lo) (h1 : hi ≤ hi') : Soft lo' hi' W a m := fun i hi => by
  obtain ⟨b, off, v, e, k0, k1, hc, hf⟩ := h i hi
  exact ⟨b, off, v, e, by omega, by omega, hc, hf⟩
theorem Soft.room {B m hi : Nat} {W : World} (h : Room B m W) (hB : B < hi) : Soft B hi W (some ⟨B, 0, none⟩) m := fun i hi' => by
  obtain ⟨v, hv, hf⟩ := h i hi'
  exact ⟨B, 0, v, rfl, Nat.le_refl _, hB, by rw [Nat.zero_add]; exact hv, by rw [Nat.zero_add]; exact hf⟩

/-- trains that can be written: the numbers, and the legs, which lie above -/
def SoftT (lo hi : Nat) (W : World) (a : Option Addr) (len : Nat) (nl : Nat → Nat) : Prop :=
  ∀ j, j < len → ∃ b off la lc, a = some ⟨b, off, none⟩ ∧ lo ≤ b ∧ b < hi ∧ (∀ c, c < 4 → ∃ v, W.cell? ⟨b, off + j * 5 + c, none⟩ = some v ∧ W.frozen? ⟨b, off + j * 5 + c, none⟩ = false) ∧ W.cell? ⟨b, off + j * 5 + 4, none⟩ = some (.slice la (nl j) lc) ∧ Soft (b + 1) hi W la (nl j * 3)
/-- rows that can be written: the numbers, which lie above -/
def SoftR (lo hi : Nat) (W : World) (a : Option Addr) (len : Nat) (n : Nat → Nat) : Prop :=
  ∀ j, j < len → ∃ b off la lc, a = some ⟨b, off, none⟩ ∧ lo ≤ b ∧ b < hi ∧ W.cell? ⟨b, off + j, none⟩ = some (.slice la (n j) lc) ∧ Soft (b + 1) hi W la (n j)
theorem SoftT.later {lo hi : Nat} {W W' : World} {a : Option Addr} {len : Nat} {nl : Nat → Nat} (h : SoftT lo hi W a len nl) (hb : Below W.heap.size W W') : SoftT lo hi W' a len nl := fun j hj => by
  obtain ⟨b, off, la, lc, e, h0, h1, h2, h3, h4⟩ := h j hj
  exact ⟨b, off, la, lc, e, h0, h1, fun c hc => by obtain ⟨v, hv, hf⟩ := h2 c hc; exact ⟨v, cellLater hb hv, (hb.frozen (p := ⟨b, _, none⟩) (ltCell hv)).trans hf⟩, cellLater hb h3, h4.later hb⟩
theorem SoftR.later {lo hi : Nat} {W W' : World} {a : Option Addr} {len : Nat} {n : Nat → Nat} (h : SoftR lo hi W a len n) (hb : Below W.heap.size W W') : SoftR lo hi W' a len n := fun j hj => by
  obtain ⟨b, off, la, lc, e, h0, h1, h3, h4⟩ := h j hj
  exact ⟨b, off, la, lc, e, h0, h1, cellLater hb h3, h4.later hb⟩
theorem SoftT.mid {lo hi lo' hi' : Nat} {W W' : World} {a : Option Addr} {len : Nat} {nl : Nat → Nat} (h : SoftT lo hi W a len nl) (hm : Mid lo' hi' W W') (hlo : hi' ≤ lo) : SoftT lo hi W' a len nl := fun j hj => by
  obtain ⟨b, off, la, lc, e, h0, h1, h2, h3, h4⟩ := h j hj
  exact ⟨b, off, la, lc, e, h0, h1, fun c hc => by obtain ⟨v, hv, hf⟩ := h2 c hc; exact hm.keeps _ _ _ hv hf, hm.cellAbove (by omega) h3, h4.mid hm⟩
theorem SoftR.mid {lo hi lo' hi' : Nat} {W W' : World} {a : Option Addr} {len : Nat} {n : Nat → Nat} (h : SoftR lo hi W a len n) (hm : Mid lo' hi' W W') (hlo : hi' ≤ lo) : SoftR lo hi W' a len n := fun j hj => by
  obtain ⟨b, off, la, lc, e, h0, h1, h3, h4⟩ := h j hj
  exact ⟨b, off, la, lc, e, h0, h1, hm.cellAbove (by omega) h3, h4.mid hm⟩
theorem SoftR.midBelow {lo hi lo' hi' : Nat} {W W' : World} {a : Option Addr} {len : Nat} {n : Nat → Nat} (h : SoftR lo hi W a len n) (hm : Mid lo' hi' W W') (hlo : hi ≤ lo') : SoftR lo hi W' a len n := fun j hj => by
  obtain ⟨b, off, la, lc, e, h0, h1, h3, h4⟩ := h j hj
  exact ⟨b, off, la, lc, e, h0, h1, hm.cellBelow (by omega) h3, h4.mid hm⟩
theorem SoftT.mono {lo hi lo' hi' : Nat} {W : World} {a : Option Addr} {len : Nat} {nl : Nat → Nat} (h : SoftT lo hi W a len nl) (k0 : lo' ≤ lo) (k1 : hi ≤ hi') : SoftT lo' hi' W a len nl := fun j hj => by
  obtain ⟨b, off, la, lc, e, h0, h1, h2, h3, h4⟩ := h j hj
  exact ⟨b, off, la, lc, e, by omega, by omega, h2, h3, h4.mono (Nat.le_refl _) k1⟩
theorem SoftR.mono {lo hi lo' hi' : Nat} {W : World} {a : Option Addr} {len : Nat} {n : Nat → Nat} (h : SoftR lo hi W a len n) (k0 : lo' ≤ lo) (k1 : hi ≤ hi') : SoftR lo' hi' W a len n := fun j hj => by
  obtain ⟨b, off, la, lc, e, h0, h1, h3, h4⟩ := h j hj
  exact ⟨b, off, la, lc, e, by omega, by omega, h3, h4.mono (Nat.le_refl _) k1⟩

set_option maxHeartbeats 1000000 in
theorem toIntSM_any (a : Option Addr) (len cap : Nat) (f : Nat → Int) (w : World) (hl : len ≤ 1048576) (hI : IsInts 0 w.heap.size w a len f) :
    Calls Tryz.prog 9 #[.slice a len cap] w fun e w' => (∃ a', e = .returned (.slice a' len len) ∧ IsInts w.heap.size w'.heap.size w' a' len f ∧ Soft w.heap.size w'.heap.size w' a' len) ∧ Below w.heap.size w w' := by
  obtain ⟨w1, hmk, hR, hB1, hs1⟩ := make_row 22 3 _ _ _ Tryz.underlying22 Tryz.infoInt (by omega) len hl w
  go_enter Tryz.func9, Tryz.ntmps9
  go_wp2
  go_loopw [4] (fun i wr => ∃ (k : Nat), k ≤ len ∧ i = .int .i64 k ∧ Room w.heap.size (len * 1) wr ∧ (∀ j, j < k → wr.cell? ⟨w.heap.size, j, none⟩ = some (.int .i64 (f j))) ∧ Below w.heap.size w wr ∧ w.heap.size < wr.heap.size) (fun i _ => len - (intOf i).toNat)
  case atStart => exact ⟨0, Nat.zero_le _, rfl, hR, fun _ h => by omega, hB1, by omega⟩
  case round =>
    obtain ⟨k, hk, rfl, hRw, hall, hB, hsz⟩ := hrel
    by_cases hlt : k < len
    · obtain ⟨b, off, rfl, _, hb, c0⟩ := (hI.below hB (Nat.le_refl _)) k hlt
      obtain ⟨v, hv, hf⟩ := hRw k (by omega)
      go_wp2
      go_roundw
      case rel =>
        refine ⟨k + 1, by omega, by go_num, hRw.set _ _, fun j hj => ?_, hB.setCell (p := ⟨w.heap.size, k, none⟩) (Nat.le_refl _) _, by simpa using hsz⟩
        by_cases e : j = k
        · subst e; exact cell_set_eq hRw (by omega)
        · rw [cell_set_ne (by omega)]; exact hall j (by omega)
      case measure => simp [intOf]; omega
    · obtain rfl : k = len := by omega
      go_wp2
      go_ret
      refine ⟨⟨_, rfl, fun j hj => ⟨_, 0, rfl, Nat.le_refl _, hsz, by rw [Nat.zero_add]; exact hall j hj⟩, ?_⟩, hB⟩
      rw [Nat.mul_one] at hRw
      exact Soft.room hRw hsz

set_option maxHeartbeats 1000000 in
theorem toLegSM_any (a : Option Addr) (len cap : Nat) (f : Nat → LegD) (w : World) (hl : len ≤ 1048576) (hI : IsLegs 0 w.heap.size w a len f) :
    Calls Tryz.prog 95 #[.slice a len cap] w fun e w' => (∃ a', e = .returned (.slice a' len len) ∧ IsLegs w.heap.size w'.heap.size w' a' len f ∧ Soft w.heap.size w'.heap.size w' a' (len * 3)) ∧ Below w.heap.size w w' := by
  obtain ⟨w1, hmk, hR, hB1, hs1⟩ := make_row 88 96 _ _ _ Tryz.underlying88 Tryz.infoLeg (by omega) len hl w
  go_enter Tryz.func95, Tryz.ntmps95
  go_wp2
  go_loopw [4] (fun i wr => ∃ (k : Nat), k ≤ len ∧ i = .int .i64 k ∧ Room w.heap.size (len * 3) wr ∧ (∀ j, j < k → wr.cell? ⟨w.heap.size, j * 3, none⟩ = some (.int .i64 (f j).to) ∧ wr.cell? ⟨w.heap.size, j * 3 + 1, none⟩ = some (.int .i64 (f j).run) ∧ wr.cell? ⟨w.heap.size, j * 3 + 2, none⟩ = some (.int .i64 (f j).stay)) ∧ Below w.heap.size w wr ∧ w.heap.size < wr.heap.size) (fun i _ => len - (intOf i).toNat)
  case atStart => exact ⟨0, Nat.zero_le _, rfl, hR, fun _ h => by omega, hB1, by omega⟩
  case round =>
    obtain ⟨k, hk, rfl, hRw, hall, hB, hsz⟩ := hrel
    by_cases hlt : k < len
    · obtain ⟨b, off, rfl, _, hb, c0, c1, c2⟩ := (hI.below hB (Nat.le_refl _)) k hlt
      go_wp2_with (go_at_call 118; refine (toLeg_any _ _ _ _).mono ?_; rintro e w2 ⟨rfl, hB2⟩; have hR2 := hRw.below hB2 hsz; obtain ⟨v0, hv0, hf0⟩ := hR2 (k * 3) (by omega); obtain ⟨v1, hv1, hf1⟩ := hR2 (k * 3 + 1) (by omega); obtain ⟨v2, hv2, hf2⟩ := hR2 (k * 3 + 2) (by omega))
      go_roundw
      case rel =>
        refine ⟨k + 1, by omega, by go_num, ((hR2.set _ _).set _ _).set _ _, fun j hj => ?_, (((hB.trans (hB2.mono hB.size)).setCell (p := ⟨w.heap.size, _, none⟩) (Nat.le_refl _) _).setCell (p := ⟨w.heap.size, _, none⟩) (Nat.le_refl _) _).setCell (p := ⟨w.heap.size, _, none⟩) (Nat.le_refl _) _, by have := hB2.size; simp; omega⟩
        by_cases e : j = k
        · subst e; exact cells3 hR2 (by omega)
        · obtain ⟨h0, h1, h2⟩ := hall j (by omega)
          rw [cells3_old (by omega), cells3_old (by omega), cells3_old (by omega)]
          exact ⟨(hB2.cell (p := ⟨w.heap.size, _, none⟩) hsz).trans h0, (hB2.cell (p := ⟨w.heap.size, _, none⟩) hsz).trans h1, (hB2.cell (p := ⟨w.heap.size, _, none⟩) hsz).trans h2⟩
      case measure => simp [intOf]; omega
    · obtain rfl : k = len := by omega
      go_wp2
      go_ret
      exact ⟨⟨_, rfl, fun j hj => ⟨_, 0, rfl, Nat.le_refl _, hsz, by rw [Nat.zero_add]; exact hall j hj⟩, Soft.room hRw hsz⟩, hB⟩

set_option maxHeartbeats 1000000 in
theorem toTrainM_any (x0 x1 x2 x3 : Int) (a : Option Addr) (len cap : Nat) (f : Nat → LegD) (w : World) (hl : len ≤ 1048576) (hI : IsLegs 0 w.heap.size w a len f) :
    Calls Tryz.prog 62 #[.agg #[.int .i64 x0, .int .i64 x1, .int .i64 x2, .int .i64 x3, .slice a len cap]] w fun e w' => (∃ a', e = .returned (.agg #[.int .i64 x0, .int .i64 x1, .int .i64 x2, .int .i64 x3, .slice a' len len]) ∧ IsLegs w.heap.size w'.heap.size w' a' len f ∧ Soft w.heap.size w'.heap.size w' a' (len * 3)) ∧ Below w.heap.size w w' := by
  go_enter Tryz.func62, Tryz.ntmps62
  go_wp2_with (go_at_call 95; refine (toLegSM_any _ _ _ f _ hl (hI.grow (b3 _ _ _ _))).mono ?_; rintro e w2 ⟨⟨a', rfl, hI2, hS2⟩, hB2⟩; obtain ⟨hc, hf⟩ := bcell hB2; have hz : w.heap.size + 2 < w2.heap.size := (by have := hB2.size; simp at this; omega))
  refine bodyPost_ret (v := .agg #[.int .i64 x0, .int .i64 x1, .int .i64 x2, .int .i64 x3, .slice a' len len]) (by simp [results, Tryz.results62, go_sem, hc]) rfl ⟨⟨a', rfl, ?_, ?_⟩, ?_⟩
  · refine ((((((hI2.mono (m₁ := w.heap.size + 3) (by simp) (Nat.le_refl _)).same (Same.set (by simp))).same (Same.set (by simp))).same (Same.set (by simp))).same (Same.set (by simp))).same (Same.set (by simp))).same (Same.set (by simp)) |>.mono (by omega) (by simp)
  · exact ((((((hS2.set _ _).set _ _).set _ _).set _ _).set _ _).set _ _).mono (by simp; omega) (by simp)
  · exact ((((((((b3 _ _ _ _).trans (hB2.mono (by simp; omega))).setCell (p := ⟨w.heap.size + 1 + 1, _, none⟩) (by simp; omega) _).setCell (p := ⟨w.heap.size + 1, _, none⟩) (by simp) _).setCell (p := ⟨w.heap.size + 1, _, none⟩) (by simp) _).setCell (p := ⟨w.heap.size + 1, _, none⟩) (by simp) _).setCell (p := ⟨w.heap.size + 1, _, none⟩) (by simp) _).setCell (p := ⟨w.heap.size + 1, _, none⟩) (by simp) _)

set_option maxHeartbeats 2000000 in
theorem toTrainSM_any (a : Option Addr) (len cap : Nat) (f : Nat → TrainD) (w : World) (hl : len ≤ 1048576) (hml : ∀ j, j < len → (f j).nl ≤ 1048576) (hI : IsTrains 0 w.heap.size w a len f) :
    Calls Tryz.prog 35 #[.slice a len cap] w fun e w' => (∃ a', e = .returned (.slice a' len len) ∧ IsTrains w.heap.size w'.heap.size w' a' len f ∧ SoftT w.heap.size w'.heap.size w' a' len (fun j => (f j).nl)) ∧ Below w.heap.size w w' := by
  obtain ⟨w1, hmk, hR, hB1, hs1⟩ := make_row 33 90 _ _ _ Tryz.underlying33 Tryz.infoTrain (by omega) len hl w
  go_enter Tryz.func35, Tryz.ntmps35
  go_wp2
  go_loopw [4] (fun i wr => ∃ (k : Nat), k ≤ len ∧ i = .int .i64 k ∧ Room w.heap.size (len * 5) wr ∧ (∀ j, j < k → ∃ la lc, wr.cell? ⟨w.heap.size, j * 5, none⟩ = some (.int .i64 (f j).frm) ∧ wr.cell? ⟨w.heap.size, j * 5 + 1, none⟩ = some (.int .i64 (f j).ready) ∧ wr.cell? ⟨w.heap.size, j * 5 + 2, none⟩ = some (.int .i64 (f j).due) ∧ wr.cell? ⟨w.heap.size, j * 5 + 3, none⟩ = some (.int .i64 (f j).weight) ∧ wr.cell? ⟨w.heap.size, j * 5 + 4, none⟩ = some (.slice la (f j).nl lc) ∧ IsLegs (w.heap.size + 1) wr.heap.size wr la (f j).nl (f j).leg ∧ Soft (w.heap.size + 1) wr.heap.size wr la ((f j).nl * 3)) ∧ Below w.heap.size w wr ∧ w.heap.size < wr.heap.size) (fun i _ => len - (intOf i).toNat)
  case atStart => exact ⟨0, Nat.zero_le _, rfl, hR, fun _ h => by omega, hB1, by omega⟩
  case round =>
    obtain ⟨k, hk, rfl, hRw, hall, hB, hsz⟩ := hrel
    by_cases hlt : k < len
    · obtain ⟨b, off, la, lc, rfl, _, hb, c0, c1, c2, c3, c4, hlg, hm'⟩ := (hI.below hB (Nat.le_refl _)) k hlt
      have hlg' : IsLegs 0 wr.heap.size wr la (f k).nl (f k).leg := hlg.mono (Nat.le_refl _) hB.size
      go_wp2_with (go_at_call 62; refine (toTrainM_any _ _ _ _ _ _ _ (f k).leg _ (hml k hlt) hlg').mono ?_; rintro e w2 ⟨⟨a2, rfl, hI2, hS2⟩, hB2⟩; have hR2 := hRw.below hB2 hsz; obtain ⟨v0, hv0, hf0⟩ := hR2 (k * 5) (by omega); obtain ⟨v1, hv1, hf1⟩ := hR2 (k * 5 + 1) (by omega); obtain ⟨v2, hv2, hf2⟩ := hR2 (k * 5 + 2) (by omega); obtain ⟨v3, hv3, hf3⟩ := hR2 (k * 5 + 3) (by omega); obtain ⟨v4, hv4, hf4⟩ := hR2 (k * 5 + 4) (by omega))
      go_roundw
      case rel =>
        refine ⟨k + 1, by omega, by go_num, ((((hR2.set _ _).set _ _).set _ _).set _ _).set _ _, fun j hj => ?_, below5 (hB.trans (hB2.mono hB.size)) (Nat.le_refl _), by have := hB2.size; simp; omega⟩
        show ∃ la lc, (st5 w2 w.heap.size (k * 5) _ _ _ _ _).cell? _ = _ ∧ _
        by_cases e : j = k
        · subst e
          obtain ⟨e0, e1, e2, e3, e4⟩ := cells5 hR2 (i := j * 5) (x0 := .int .i64 (f j).frm) (x1 := .int .i64 (f j).ready) (x2 := .int .i64 (f j).due) (x3 := .int .i64 (f j).weight) (x4 := .slice a2 (f j).nl (f j).nl) (by omega)
          exact ⟨a2, (f j).nl, e0, e1, e2, e3, e4, ((hI2.same (same5 hsz)).mono hsz (Nat.le_of_eq size5.symm)), ((((((hS2.set _ _).set _ _).set _ _).set _ _).set _ _).mono hsz (Nat.le_of_eq size5.symm))⟩
        · obtain ⟨la', lc', h0, h1, h2, h3, h4, h5, h6⟩ := hall j (by omega)
          refine ⟨la', lc', ?_, ?_, ?_, ?_, ?_, ((h5.below hB2 (Nat.le_refl _)).same (same5 (Nat.lt_succ_self _))).mono (Nat.le_refl _) (by have := hB2.size; simp; omega), ((((((h6.later hB2).set _ _).set _ _).set _ _).set _ _).set _ _).mono (Nat.le_refl _) (by have := hB2.size; simp; omega)⟩
          · exact (cells5_old (by omega)).trans ((hB2.cell (p := ⟨w.heap.size, _, none⟩) hsz).trans h0)
          · exact (cells5_old (by omega)).trans ((hB2.cell (p := ⟨w.heap.size, _, none⟩) hsz).trans h1)
          · exact (cells5_old (by omega)).trans ((hB2.cell (p := ⟨w.heap.size, _, none⟩) hsz).trans h2)
          · exact (cells5_old (by omega)).trans ((hB2.cell (p := ⟨w.heap.size, _, none⟩) hsz).trans h3)
          · exact (cells5_old (by omega)).trans ((hB2.cell (p := ⟨w.heap.size, _, none⟩) hsz).trans h4)
      case measure => simp [intOf]; omega
    · obtain rfl : k = len := by omega
      go_wp2
      go_ret
      refine ⟨⟨_, rfl, fun j hj => ?_, fun j hj => ?_⟩, hB⟩
      · obtain ⟨la', lc', h0, h1, h2, h3, h4, h5, h6⟩ := hall j hj
        have := hml j hj
        exact ⟨_, 0, la', lc', rfl, Nat.le_refl _, hsz, by rw [Nat.zero_add]; exact h0, by rw [Nat.zero_add]; exact h1, by rw [Nat.zero_add]; exact h2, by rw [Nat.zero_add]; exact h3, by rw [Nat.zero_add]; exact h4, h5.mono (by omega) (Nat.le_refl _), by unfold maxLen; omega⟩
      · obtain ⟨la', lc', h0, h1, h2, h3, h4, h5, h6⟩ := hall j hj
        refine ⟨_, 0, la', lc', rfl, Nat.le_refl _, hsz, fun c hc => ?_, by rw [Nat.zero_add]; exact h4, h6⟩
        rw [Nat.zero_add]
        exact hRw (j * 5 + c) (by omega)

set_option maxHeartbeats 2000000 in
theorem toLineM_any (a : Option Addr) (len cap : Nat) (g : Nat → Int) (gap : Int) (a' : Option Addr) (len' cap' : Nat) (f : Nat → TrainD) (w : World) (hl : len ≤ 1048576) (hl' : len' ≤ 1048576) (hml : ∀ j, j < len' → (f j).nl ≤ 1048576)
    (hI : IsInts 0 w.heap.size w a len g) (hT : IsTrains 0 w.heap.size w a' len' f) :
    Calls Tryz.prog 8 #[.agg #[.slice a len cap, .int .i64 gap, .slice a' len' cap']] w fun e w' => (∃ b b', e = .returned (.agg #[.slice b len len, .int .i64 gap, .slice b' len' len']) ∧ IsInts w.heap.size w'.heap.size w' b len g ∧ IsTrains w.heap.size w'.heap.size w' b' len' f ∧ ∃ mid, w.heap.size ≤ mid ∧ mid ≤ w'.heap.size ∧ Soft w.heap.size mid w' b len ∧ SoftT mid w'.heap.size w' b' len' (fun j => (f j).nl)) ∧ Below w.heap.size w w' := by
  go_enter Tryz.func8, Tryz.ntmps8
  go_wp2_with (first | (go_at_call 9; refine (toIntSM_any _ _ _ g _ hl (hI.grow (b3 _ _ _ _))).mono ?_; rintro e w2 ⟨⟨b, rfl, hI2, hS2⟩, hB2⟩; obtain ⟨hc, hf⟩ := bcell hB2; have hz : w.heap.size + 2 < w2.heap.size := (by have := hB2.size; simp at this; omega); have hR2 := (Room.mid w (.cells #[.slice a len cap, .int .i64 gap, .slice a' len' cap'] 25) #[.slice none 0 0, .int .i64 0, .slice none 0 0] 35 _ 3 (Nat.le_refl _)).below hB2 (by simp only [World.size_alloc]; omega); have hBx : Below w.heap.size w w2 := (b3 _ _ _ _).trans (hB2.mono (by simp; omega))) | (go_at_call 35; refine (toTrainSM_any _ _ _ f _ hl' hml (hT.grow ((hBx.setCell (p := ⟨w.heap.size + 1 + 1, _, none⟩) (by simp; omega) _).setCell (p := ⟨w.heap.size + 1 + 1, _, none⟩) (by simp; omega) _))).mono ?_; rintro e w3 ⟨⟨b', rfl, hT3, hS3⟩, hB3⟩; have hR3 := ((hR2.set _ _).set _ _).below hB3 (by simp only [World.size_setCell]; omega); obtain ⟨v0, hv0, hf0⟩ := hR3 0 (by omega); obtain ⟨v1, hv1, hf1⟩ := hR3 1 (by omega); obtain ⟨v2, hv2, hf2⟩ := hR3 2 (by omega); clear hR3; obtain ⟨hc3, hf3⟩ := bcell hB3; have hz3 : w.heap.size + 2 < w3.heap.size := (by have := hB3.size; simp at this; omega)))
  refine bodyPost_ret (v := .agg #[.slice b len len, .int .i64 gap, .slice b' len' len']) (by simp [results, Tryz.results8, go_sem, hv0, hv1, hv2]) rfl ⟨⟨b, b', rfl, ?_, ?_, ?_⟩, ?_⟩
  · refine (((((((((hI2.mono (m₁ := w.heap.size + 3) (by simp) (Nat.le_refl _)).same (Same.set (by simp))).same (Same.set (by simp))).below hB3 (by simp)).same (Same.set (by simp))).same (Same.set (by simp))).same (Same.set (by simp))).same (Same.set (by simp))).mono (by omega) (by have := hB3.size; simp at this ⊢; omega))
  · refine ((((((hT3.mono (m₁ := w.heap.size + 3) (by simp; omega) (Nat.le_refl _)).same (Same.set (by simp))).same (Same.set (by simp))).same (Same.set (by simp))).same (Same.set (by simp))).mono (by omega) (by simp))
  · have hz4 : w2.heap.size ≤ w3.heap.size := by have := hB3.size; simpa using this
    refine ⟨w2.heap.size, by omega, by simpa using hz4, ?_, ?_⟩
    · exact ((((((((hS2.set _ _).set _ _).later hB3).set _ _).set _ _).set _ _).set _ _).mono (by simp; omega) (Nat.le_refl _))
    · have hm : ∀ W o x, SoftT w2.heap.size w3.heap.size W b' len' (fun j => (f j).nl) → ∀ B, B < w2.heap.size → SoftT w2.heap.size w3.heap.size (W.setCell ⟨B, o, none⟩ x) b' len' (fun j => (f j).nl) := fun W o x h B hB => h.mid (Mid.set (lo := 0) (hi := w2.heap.size) (Nat.zero_le _) hB x) (Nat.le_refl _)
      have h0 : SoftT w2.heap.size w3.heap.size w3 b' len' (fun j => (f j).nl) := hS3.mono (by simp) (Nat.le_refl _)
      simp only [World.size_setCell]
      exact hm _ _ _ (hm _ _ _ (hm _ _ _ (hm _ _ _ h0 _ (by omega)) _ (by omega)) _ (by omega)) _ (by omega)
  · exact (((((((hBx.setCell (p := ⟨w.heap.size + 1 + 1, _, none⟩) (by simp; omega) _).setCell (p := ⟨w.heap.size + 1 + 1, _, none⟩) (by simp; omega) _).trans (hB3.mono (by simp; omega))).setCell (p := ⟨w.heap.size + 1 + 1, _, none⟩) (by simp; omega) _).setCell (p := ⟨w.heap.size + 1, _, none⟩) (by simp) _).setCell (p := ⟨w.heap.size + 1, _, none⟩) (by simp) _).setCell (p := ⟨w.heap.size + 1, _, none⟩) (by simp) _)

set_option maxHeartbeats 2000000 in
theorem toIntSSM_any (a : Option Addr) (len cap : Nat) (f : Nat → RowD) (w : World) (hl : len ≤ 1048576) (hml : ∀ j, j < len → (f j).n ≤ 1048576) (hI : IsRows 0 w.heap.size w a len f) :
    Calls Tryz.prog 54 #[.slice a len cap] w fun e w' => (∃ a', e = .returned (.slice a' len len) ∧ IsRows w.heap.size w'.heap.size w' a' len f ∧ Caps w' a' len ∧ SoftR w.heap.size w'.heap.size w' a' len (fun j => (f j).n)) ∧ Below w.heap.size w w' := by
  obtain ⟨w1, hmk, hR, hB1, hs1⟩ := make_row 27 22 _ _ _ Tryz.underlying27 Tryz.infoRow (by omega) len hl w
  go_enter Tryz.func54, Tryz.ntmps54
  go_wp2
  go_loopw [4] (fun i wr => ∃ (k : Nat), k ≤ len ∧ i = .int .i64 k ∧ Room w.heap.size (len * 1) wr ∧ (∀ j, j < k → ∃ la lc, wr.cell? ⟨w.heap.size, j, none⟩ = some (.slice la (f j).n lc) ∧ (f j).n ≤ lc ∧ IsInts (w.heap.size + 1) wr.heap.size wr la (f j).n (f j).s ∧ Soft (w.heap.size + 1) wr.heap.size wr la (f j).n) ∧ Below w.heap.size w wr ∧ w.heap.size < wr.heap.size) (fun i _ => len - (intOf i).toNat)
  case atStart => exact ⟨0, Nat.zero_le _, rfl, hR, fun _ h => by omega, hB1, by omega⟩
  case round =>
    obtain ⟨k, hk, rfl, hRw, hall, hB, hsz⟩ := hrel
    by_cases hlt : k < len
    · obtain ⟨b, off, la, lc, rfl, _, hb, c0, hlg, hm'⟩ := (hI.below hB (Nat.le_refl _)) k hlt
      have hlg' : IsInts 0 wr.heap.size wr la (f k).n (f k).s := hlg.mono (Nat.le_refl _) hB.size
      go_wp2_with (go_at_call 9; refine (toIntSM_any _ _ _ (f k).s _ (hml k hlt) hlg').mono ?_; rintro e w2 ⟨⟨a2, rfl, hI2, hS2⟩, hB2⟩; have hR2 := hRw.below hB2 hsz; obtain ⟨v0, hv0, hf0⟩ := hR2 k (by omega))
      go_roundw
      case rel =>
        refine ⟨k + 1, by omega, by go_num, hR2.set _ _, fun j hj => ?_, (hB.trans (hB2.mono hB.size)).setCell (p := ⟨w.heap.size, _, none⟩) (Nat.le_refl _) _, by have := hB2.size; simp; omega⟩
        by_cases e : j = k
        · subst e
          exact ⟨a2, (f j).n, cell_set_eq hR2 (by omega), Nat.le_refl _, (hI2.same (Same.set (by simpa using hsz))).mono hsz (by simp), (hS2.set _ _).mono hsz (by simp)⟩
        · obtain ⟨la', lc', h0, hlc, h5, h6⟩ := hall j (by omega)
          exact ⟨la', lc', (cell_set_ne (by omega)).trans ((hB2.cell (p := ⟨w.heap.size, _, none⟩) hsz).trans h0), hlc, ((h5.below hB2 (Nat.le_refl _)).same (Same.set (by simp))).mono (Nat.le_refl _) (by have := hB2.size; simp; omega), ((h6.later hB2).set _ _).mono (Nat.le_refl _) (by have := hB2.size; simp; omega)⟩
      case measure => simp [intOf]; omega
    · obtain rfl : k = len := by omega
      go_wp2
      go_ret
      refine ⟨⟨_, rfl, fun j hj => ?_, fun j hj => ?_, fun j hj => ?_⟩, hB⟩
      · obtain ⟨la', lc', h0, hlc, h5, h6⟩ := hall j hj
        have := hml j hj
        exact ⟨_, 0, la', lc', rfl, Nat.le_refl _, hsz, by rw [Nat.zero_add]; exact h0, h5.mono (by omega) (Nat.le_refl _), by unfold maxLen; omega⟩
      · obtain ⟨la', lc', h0, hlc, h5, h6⟩ := hall j hj
        exact ⟨_, 0, la', _, lc', rfl, by rw [Nat.zero_add]; exact h0, hlc⟩
      · obtain ⟨la', lc', h0, hlc, h5, h6⟩ := hall j hj
        exact ⟨_, 0, la', lc', rfl, Nat.le_refl _, hsz, by rw [Nat.zero_add]; exact h0, h6⟩

set_option maxHeartbeats 1000000 in
theorem toPlanM_any (a : Option Addr) (len cap : Nat) (f : Nat → RowD) (w : World) (hl : len ≤ 1048576) (hml : ∀ j, j < len → (f j).n ≤ 1048576) (hI : IsRows 0 w.heap.size w a len f) :
    Calls Tryz.prog 25 #[.agg #[.slice a len cap]] w fun e w' => (∃ b, e = .returned (.agg #[.slice b len len]) ∧ IsRows w.heap.size w'.heap.size w' b len f ∧ Caps w' b len ∧ SoftR w.heap.size w'.heap.size w' b len (fun j => (f j).n)) ∧ Below w.heap.size w w' := by
  go_enter Tryz.func25, Tryz.ntmps25
  go_wp2_with (go_at_call 54; refine (toIntSSM_any _ _ _ f _ hl hml (hI.grow (b3 _ _ _ _))).mono ?_; rintro e w2 ⟨⟨b, rfl, hI2, hC2, hS2⟩, hB2⟩; obtain ⟨hc, hf⟩ := bcell hB2; have hz : w.heap.size + 2 < w2.heap.size := (by have := hB2.size; simp at this; omega))
  refine bodyPost_ret (v := .agg #[.slice b len len]) (by simp [results, Tryz.results25, go_sem, hc]) rfl ⟨⟨b, rfl, ?_, ?_, ?_⟩, ?_⟩
  · refine (((hI2.mono (m₁ := w.heap.size + 3) (by simp) (Nat.le_refl _)).same (Same.set (by simp))).same (Same.set (by simp))).mono (by omega) (by simp)
  · intro j hj
    obtain ⟨bb, off, la, n, lc, rfl, hc0, hle⟩ := hC2 j hj
    obtain ⟨bb', off', la', lc', e', hmm, hnn, hc0', _⟩ := hI2 j hj
    cases e'
    have h3 : w.heap.size + 3 ≤ bb := by have := hmm; simp at this; omega
    exact ⟨bb, off, la, n, lc, rfl, (Same.set (m₀ := w.heap.size + 3) (n₀ := bb + 1) (by simp)).cell h3 (by omega) ((Same.set (m₀ := w.heap.size + 3) (n₀ := bb + 1) (by simp)).cell h3 (by omega) hc0), hle⟩
  · have hm : ∀ W o x, SoftR (w.heap.size + 3) w2.heap.size W b len (fun j => (f j).n) → ∀ B, B < w.heap.size + 3 → SoftR (w.heap.size + 3) w2.heap.size (W.setCell ⟨B, o, none⟩ x) b len (fun j => (f j).n) := fun W o x h B hB => h.mid (Mid.set (lo := 0) (hi := w.heap.size + 3) (Nat.zero_le _) hB x) (Nat.le_refl _)
    have h0 : SoftR (w.heap.size + 3) w2.heap.size w2 b len (fun j => (f j).n) := hS2.mono (by simp) (Nat.le_refl _)
    simp only [World.size_setCell]
    exact (hm _ _ _ (hm _ _ _ h0 _ (by omega)) _ (by omega)).mono (by omega) (Nat.le_refl _)
  · exact (((b3 _ _ _ _).trans (hB2.mono (by simp; omega))).setCell (p := ⟨w.heap.size + 1 + 1, _, none⟩) (by simp; omega) _).setCell (p := ⟨w.heap.size + 1, _, none⟩) (by simp) _
end Go.Proofs.YthnlkpifafklkaaGreatDoor
