/-
  A map keyed by whole numbers, seen as a function from its keys to its values.
-/
import Derived.Test.YtelickcfodcmaaaGreatDoorBase
import Derived.Maps.OwnSet
import Derived.Maps.AppendAt
namespace Go.Proofs.YtelickcfodcmaaaGreatDoor
open Go.RowKit

def rawElem (v : Value) : Option (DataW Value × List MemPlace) := some (.held v, [])
/-- block b is a map of at most n entries; at a key x there is m x, which is z where there is no entry -/
def KV (k : TypeId) (W : World) (b n : Nat) (z : Value) (m : Int → Value) : Prop :=
  ∃ D, W.ownsMap Tryz.prog k rawElem b n D ∧ ∀ x, (Lit.int .i64 x).wf = true → D.atKey (.int .i64 x) (.held z) = .held (m x)

theorem KV.made (k : TypeId) (w : World) (z : Value) : KV k (w.alloc (.map #[] 0)) w.heap.size 0 z (fun _ => z) :=
  ⟨_, World.ownsMap_made w Tryz.prog k rawElem, fun _ _ => rfl⟩
theorem KV.same {k : TypeId} {W W' : World} {b n : Nat} {z : Value} {m : Int → Value} (h : KV k W b n z m) (e : W'.heap[b]? = W.heap[b]?) : KV k W' b n z m := by
  obtain ⟨D, ⟨es, clock, hb, r⟩, hD⟩ := h
  exact ⟨D, ⟨es, clock, e.trans hb, r⟩, hD⟩
theorem KV.lt {k : TypeId} {W : World} {b n : Nat} {z : Value} {m : Int → Value} (h : KV k W b n z m) : b < W.heap.size := by
  obtain ⟨D, h, _⟩ := h
  exact h.lt
theorem KV.grown {k : TypeId} {W W' : World} {b n : Nat} {z : Value} {m : Int → Value} {row : Option Nat} (h : KV k W b n z m) (hg : W.grownBy W' row) (hne : some b ≠ row) : KV k W' b n z m := h.same (hg.block b h.lt hne)
theorem KV.later {k : TypeId} {W W' : World} {b n : Nat} {z : Value} {m : Int → Value} (h : KV k W b n z m) (hB : Below W.heap.size W W') : KV k W' b n z m := h.same (hB.block b h.lt)
theorem KV.mono {k : TypeId} {W : World} {b n n' : Nat} {z : Value} {m : Int → Value} (h : KV k W b n z m) (hn : n ≤ n') : KV k W b n' z m := by
  obtain ⟨D, h, hD⟩ := h
  exact ⟨D, h.mono hn, hD⟩
theorem KV.set {k : TypeId} {W : World} {b n : Nat} {z : Value} {m : Int → Value} (h : KV k W b n z m) {p : Addr} {x : Value} (hp : p.block ≠ b) : KV k (W.setCell p x) b n z m := h.same (Below.heap_setCell W p x b (Ne.symm hp))

theorem KV.lookup {k t e : TypeId} {W : World} {b n : Nat} {z : Value} {m : Int → Value} (h : KV k W b n z m) (hk : Tryz.prog.underlying k = some (.int .i64)) (ht : Tryz.prog.underlying t = some (.map k e)) (hz : (zeroValue e).run Tryz.prog W = .ok z W)
    {x : Int} (hx : (Lit.int .i64 x).wf = true) : (Instr.lookup t (.map (some b)) (.int .i64 x) false).run Tryz.prog W = .ok (m x) W := by
  obtain ⟨D, h, hD⟩ := h
  obtain ⟨v, ps, hrun, hv⟩ := h.lookup (Maps.int_keyed hk) ht hz (zd := .held z) (zp := []) rfl (Maps.keyOf_int_mk hk hx)
  rw [hD x hx] at hv
  unfold rawElem at hv
  simp only [Option.some.injEq, Prod.mk.injEq, DataW.held.injEq] at hv
  rw [hrun, hv.1]

theorem KV.update {k t e : TypeId} {W : World} {b n : Nat} {z : Value} {m : Int → Value} (h : KV k W b n z m) (hk : Tryz.prog.underlying k = some (.int .i64)) (ht : Tryz.prog.underlying t = some (.map k e)) (hn : n < maxLen)
    {x : Int} (hx : (Lit.int .i64 x).wf = true) (v : Value) : ∃ W', (Instr.mapUpdate t (.map (some b)) (.int .i64 x) v).run Tryz.prog W = .ok () W' ∧ KV k W' b (n + 1) z (fun y => if y = x then v else m y) ∧ W.grownBy W' (some b) := by
  obtain ⟨D, h, hD⟩ := h
  have hM := h.isMap
  obtain ⟨W', hrun, h', hg⟩ := h.update (Maps.int_keyed hk) ht hn (Maps.keyOf_int_mk hk hx) (val := v) (d := .held v) (ps := []) rfl
  refine ⟨W', hrun, ⟨_, h', fun y hy => ?_⟩, hg⟩
  dsimp only
  by_cases hyx : y = x
  · subst hyx
    rw [if_pos rfl]
    exact Maps.atKey_put_same hM (k := .int .i64 y) trivial _ _
  · rw [if_neg hyx, Maps.atKey_put_other (by intro e; cases e; exact hyx rfl)]
    exact hD y hy

theorem wpList_kv_lookup (w : World) {ops : Array Oper} {rest : List Oper} {o : Oper} {a : Act} {Q : Exit → Act → World → Prop}
    (hg : o.guard = none) (mo xo : Operand) (t : TypeId) (hop : o.op = Op.lookup t mo xo false) (k e : TypeId) (hk : Tryz.prog.underlying k = some (.int .i64)) (ht : Tryz.prog.underlying t = some (.map k e)) (b n : Nat) (z : Value) (m : Int → Value)
    (hz : (zeroValue e).run Tryz.prog w = .ok z w) (hm : a.eval mo = .map (some b)) (hown : KV k w b n z m) (x : Int) (hx : a.eval xo = .int .i64 x) (hw : (Lit.int .i64 x).wf = true)
    (hK : wpList Tryz.prog ops Q rest (a.put o.dst (m x)) w) : wpList Tryz.prog ops Q (o :: rest) a w := by
  refine wpList_plain hg fun K' hK' => ?_
  have hrun := hown.lookup hk ht hz hw
  unfold Oper.wp
  simp [execOp, hop, hm, hx, hrun, Result.andThen]
  exact hK' _ _ hK

theorem wpList_kv_update (w : World) {ops : Array Oper} {rest : List Oper} {o : Oper} {a : Act} {Q : Exit → Act → World → Prop}
    (hg : o.guard = none) (mo xo vo : Operand) (t : TypeId) (hop : o.op = Op.mapUpdate t mo xo vo) (k e : TypeId) (hk : Tryz.prog.underlying k = some (.int .i64)) (ht : Tryz.prog.underlying t = some (.map k e)) (b n : Nat) (z : Value) (m : Int → Value)
    (hm : a.eval mo = .map (some b)) (hown : KV k w b n z m) (hn : n < maxLen) (x : Int) (v : Value) (hx : a.eval xo = .int .i64 x) (hv : a.eval vo = v) (hw : (Lit.int .i64 x).wf = true)
    (hK : ∀ w', KV k w' b (n + 1) z (fun y => if y = x then v else m y) → w.grownBy w' (some b) → wpList Tryz.prog ops Q rest (a.put o.dst undef) w') : wpList Tryz.prog ops Q (o :: rest) a w := by
  refine wpList_plain hg fun K' hK' => ?_
  obtain ⟨w', hrun, r1, r2⟩ := hown.update hk ht hn hw v
  unfold Oper.wp
  simp [execOp, hop, hm, hx, hv, hrun, Result.andThen]
  exact hK' _ _ (hK w' r1 r2)
end Go.Proofs.YtelickcfodcmaaaGreatDoor
