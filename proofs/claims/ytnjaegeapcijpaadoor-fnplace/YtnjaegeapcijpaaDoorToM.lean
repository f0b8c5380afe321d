/-
  The laws' own copies of an argument can be written into; what a store into them leaves as it was.
-/
import Derived.Test.YtnjaegeapcijpaaDoorPlansC
namespace Go.Proofs.YtnjaegeapcijpaaDoor
open Go.RowKit

/-- m places that can be written, in a block from lo on and below hi -/
def Soft (lo hi : Nat) (W : World) (a : Option Addr) (m : Nat) : Prop :=
  ∀ i, i < m → ∃ b off v, a = some ⟨b, off, none⟩ ∧ lo ≤ b ∧ b < hi ∧ W.cell? ⟨b, off + i, none⟩ = some v ∧ W.frozen? ⟨b, off + i, none⟩ = false
/-- only blocks from lo on and below hi were written, and what could be written still can -/
structure Mid (lo hi : Nat) (w w' : World) : Prop where
  below : Below lo w w'
  above : ∀ x, hi ≤ x → x < w.heap.size → w'.heap[x]? = w.heap[x]?
  keeps : ∀ b o v, w.cell? ⟨b, o, none⟩ = some v → w.frozen? ⟨b, o, none⟩ = false → ∃ v', w'.cell? ⟨b, o, none⟩ = some v' ∧ w'.frozen? ⟨b, o, none⟩ = false
theorem Mid.refl (lo hi : Nat) (w : World) : Mid lo hi w w := ⟨Below.refl _ _, fun _ _ _ => rfl, fun _ _ v h f => ⟨v, h, f⟩⟩
theorem Mid.trans {lo hi : Nat} {a b c : World} (h : Mid lo hi a b) (k : Mid lo hi b c) : Mid lo hi a c :=
  ⟨h.below.trans k.below, fun x h0 h1 => (k.above x h0 (Nat.lt_of_lt_of_le h1 h.below.size)).trans (h.above x h0 h1), fun b o v hc hf => by
    obtain ⟨v', h1, h2⟩ := h.keeps b o v hc hf
    exact k.keeps b o v' h1 h2⟩
theorem Mid.mono {lo hi lo' hi' : Nat} {a b : World} (h : Mid lo hi a b) (h0 : lo' ≤ lo) (h1 : hi ≤ hi') : Mid lo' hi' a b :=
  ⟨h.below.mono h0, fun x hx => h.above x (by omega), h.keeps⟩
theorem Mid.set {lo hi : Nat} {w : World} {b o : Nat} (h0 : lo ≤ b) (h1 : b < hi) (x : Value) : Mid lo hi w (w.setCell ⟨b, o, none⟩ x) :=
  ⟨(Below.refl _ _).setCell (p := ⟨b, o, none⟩) h0 x, fun y hy _ => Below.heap_setCell w ⟨b, o, none⟩ x y (by simp; omega), fun b' o' v hc hf => by
    obtain ⟨v', hv'⟩ := cell?_setCell_some (w := w) (p := ⟨b, o, none⟩) (x := x) hc
    exact ⟨v', hv', by rw [World.frozen?_setCell]; exact hf⟩⟩
theorem Mid.ofBelow {lo hi : Nat} {w w' : World} (h : Below w.heap.size w w') (hlo : lo ≤ w.heap.size) : Mid lo hi w w' :=
  ⟨h.mono hlo, fun x _ hx => h.block x hx, fun b o v hc hf => ⟨v, cellLater h hc, (h.frozen (p := ⟨b, o, none⟩) (ltCell hc)).trans hf⟩⟩
theorem Mid.cellAbove {lo hi : Nat} {w w' : World} (h : Mid lo hi w w') {b o : Nat} {v : Value} (hb : hi ≤ b) (hc : w.cell? ⟨b, o, none⟩ = some v) : w'.cell? ⟨b, o, none⟩ = some v :=
  (World.cell?_of_block (w := w) (w' := w') (a := ⟨b, o, none⟩) (h.above b hb (ltCell hc))).trans hc
theorem Mid.cellBelow {lo hi : Nat} {w w' : World} (h : Mid lo hi w w') {b o : Nat} {v : Value} (hb : b < lo) (hc : w.cell? ⟨b, o, none⟩ = some v) : w'.cell? ⟨b, o, none⟩ = some v :=
  (h.below.cell (p := ⟨b, o, none⟩) hb).trans hc
theorem Mid.sameBelow {lo hi m n : Nat} {w w' : World} (h : Mid lo hi w w') (hn : n ≤ lo) : Same m n w w' := Same.below h.below hn
theorem Mid.sameAbove {lo hi m n : Nat} {w w' : World} (h : Mid lo hi w w') (hm : hi ≤ m) (hn : n ≤ w.heap.size) : Same m n w w' := fun k h0 h1 => h.above k (by omega) (by omega)

theorem Soft.mid {lo hi lo' hi' : Nat} {W W' : World} {a : Option Addr} {m : Nat} (h : Soft lo hi W a m) (hm : Mid lo' hi' W W') : Soft lo hi W' a m := fun i hi => by
  obtain ⟨b, off, v, e, h0, h1, hc, hf⟩ := h i hi
  obtain ⟨v', hc', hf'⟩ := hm.keeps b _ v hc hf
  exact ⟨b, off, v', e, h0, h1, hc', hf'⟩
theorem Soft.later {lo hi : Nat} {W W' : World} {a : Option Addr} {m : Nat} (h : Soft lo hi W a m) (hb : Below W.heap.size W W') : Soft lo hi W' a m :=
  h.mid (Mid.ofBelow (lo := 0) (hi := 0) hb (Nat.zero_le _))
theorem Soft.set {lo hi : Nat} {W : World} {a : Option Addr} {m : Nat} (h : Soft lo hi W a m) (p : Addr) (x : Value) : Soft lo hi (W.setCell p x) a m := fun i hi => by
  obtain ⟨b, off, v, e, h0, h1, hc, hf⟩ := h i hi
  obtain ⟨v', hv'⟩ := cell?_setCell_some (w := W) (p := p) (x := x) hc
  exact ⟨b, off, v', e, h0, h1, hv', by rw [World.frozen?_setCell]; exact hf⟩
theorem Soft.mono {lo hi lo' hi' : Nat} {W : World} {a : Option Addr} {m : Nat} (h : Soft lo hi W a m) (h0 : lo' ≤ lo) (h1 : hi ≤ hi') : Soft lo' hi' W a m := fun i hi => by
  obtain ⟨b, off, v, e, k0, k1, hc, hf⟩ := h i hi
  exact ⟨b, off, v, e, by omega, by omega, hc, hf⟩
theorem Soft.room {B m hi : Nat} {W : World} (h : Room B m W) (hB : B < hi) : Soft B hi W (some ⟨B, 0, none⟩) m := fun i hi' => by
  obtain ⟨v, hv, hf⟩ := h i hi'
  exact ⟨B, 0, v, rfl, Nat.le_refl _, hB, by rw [Nat.zero_add]; exact hv, by rw [Nat.zero_add]; exact hf⟩

/-- trains that can be written: the numbers, and the legs, which lie above -/
def SoftT (lo hi : Nat) (W : World) (a : Option Addr) (len : Nat) (nl : Nat → Nat) : Prop :=
  ∀ j, j < len → ∃ b off la lc, a = some ⟨b, off, none⟩ ∧ lo ≤ b ∧ b < hi ∧ (∀ c, c < 4 → ∃ v, W.cell? ⟨b, off + j * 5 + c, none⟩ = some v ∧ W.frozen? ⟨b, off + j * 5 + c, none⟩ = false) ∧ W.cell? ⟨b, off + j * 5 + 4, none⟩ = some (.slice la (nl j) lc) ∧ Soft (b + 1) hi W la (nl j * 3)
/-- rows that can be written: the numbers, which lie above -/
def SoftR (lo hi : Nat) (W : World) (a : Option Addr) (len : Nat) (n : Nat → Nat) : Prop :=
  ∀ j, j < len → ∃ b off la lc, a = some ⟨b, off, none⟩ ∧ lo ≤ b ∧ b < hi ∧ W.cell? ⟨b, off + j, none⟩ = some (.slice la (n j) lc) ∧ Soft (b + 1) hi W la (n j)
theorem SoftT.later {lo hi : Nat} {W W' : World} {a : Option Addr} {len : Nat} {nl : Nat → Nat} (h : SoftT lo hi W a len nl) (hb : Below W.heap.size W W') : SoftT lo hi W' a len nl := fun j hj => by
  obtain ⟨b, off, la, lc, e, h0, h1, h2, h3, h4⟩ := h j hj
  exact ⟨b, off, la, lc, e, h0, h1, fun c hc => by obtain ⟨v, hv, hf⟩ := h2 c hc; exact ⟨v, cellLater hb hv, (hb.frozen (p := ⟨b, _, none⟩) (ltCell hv)).trans hf⟩, cellLater hb h3, h4.later hb⟩
theorem SoftR.later {lo hi : Nat} {W W' : World} {a : Option Addr} {len : Nat} {n : Nat → Nat} (h : SoftR lo hi W a len n) (hb : Below W.heap.size W W') : SoftR lo hi W' a len n := fun j hj => by
  obtain ⟨b, off, la, lc, e, h0, h1, h3, h4⟩ := h j hj
  exact ⟨b, off, la, lc, e, h0, h1, cellLater hb h3, h4.later hb⟩
theorem SoftT.mid {lo hi lo' hi' : Nat} {W W' : World} {a : Option Addr} {len : Nat} {nl : Nat → Nat} (h : SoftT lo hi W a len nl) (hm : Mid lo' hi' W W') (hlo : hi' ≤ lo) : SoftT lo hi W' a len nl := fun j hj => by
  obtain ⟨b, off, la, lc, e, h0, h1, h2, h3, h4⟩ := h j hj
  exact ⟨b, off, la, lc, e, h0, h1, fun c hc => by obtain ⟨v, hv, hf⟩ := h2 c hc; exact hm.keeps _ _ _ hv hf, hm.cellAbove (by omega) h3, h4.mid hm⟩
theorem SoftR.mid {lo hi lo' hi' : Nat} {W W' : World} {a : Option Addr} {len : Nat} {n : Nat → Nat} (h : SoftR lo hi W a len n) (hm : Mid lo' hi' W W') (hlo : hi' ≤ lo) : SoftR lo hi W' a len n := fun j hj => by
  obtain ⟨b, off, la, lc, e, h0, h1, h3, h4⟩ := h j hj
  exact ⟨b, off, la, lc, e, h0, h1, hm.cellAbove (by omega) h3, h4.mid hm⟩
theorem SoftR.midBelow {lo hi lo' hi' : Nat} {W W' : World} {a : Option Addr} {len : Nat} {n : Nat → Nat} (h : SoftR lo hi W a len n) (hm : Mid lo' hi' W W') (hlo : hi ≤ lo') : SoftR lo hi W' a len n := fun j hj => by
  obtain ⟨b, off, la, lc, e, h0, h1, h3, h4⟩ := h j hj
  exact ⟨b, off, la, lc, e, h0, h1, hm.cellBelow (by omega) h3, h4.mid hm⟩
theorem SoftT.mono {lo hi lo' hi' : Nat} {W : World} {a : Option Addr} {len : Nat} {nl : Nat → Nat} (h : SoftT lo hi W a len nl) (k0 : lo' ≤ lo) (k1 : hi ≤ hi') : SoftT lo' hi' W a len nl := fun j hj => by
  obtain ⟨b, off, la, lc, e, h0, h1, h2, h3, h4⟩ := h j hj
  exact ⟨b, off, la, lc, e, by omega, by omega, h2, h3, h4.mono (Nat.le_refl _) k1⟩
theorem SoftR.mono {lo hi lo' hi' : Nat} {W : World} {a : Option Addr} {len : Nat} {n : Nat → Nat} (h : SoftR lo hi W a len n) (k0 : lo' ≤ lo) (k1 : hi ≤ hi') : SoftR lo' hi' W a len n := fun j hj => by
  obtain ⟨b, off, la, lc, e, h0, h1, h3, h4⟩ := h j hj
  exact ⟨b, off, la, lc, e, by omega, by omega, h3, h4.mono (Nat.le_refl _) k1⟩

end Go.Proofs.YtnjaegeapcijpaaDoor
